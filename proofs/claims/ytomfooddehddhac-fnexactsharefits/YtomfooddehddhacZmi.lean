/-
  The model's ShareFits.
-/
import Derived.Test.YtomfooddehddhacZmc
import Derived.Test.YtomfooddehddhacZmd
namespace Go.Proofs.Ytomfooddehddhac
open Go.RowKit Go.Sort

theorem atl_take {α : Type} [Lay α] {S : Nat → Prop} {w : World} {l : List α} {oa : Option Addr} {n cap : Nat} (h : AtL S w l (.slice oa n cap)) (m : Nat) (hm : m ≤ n) : AtL S w (l.take m) (.slice oa m cap) := by
  obtain ⟨oa', cap', e, ⟨h1, h2, h3⟩, hc⟩ := h
  cases e
  have el : (l.take m).length = m := by rw [List.length_take]; omega
  refine ⟨oa, cap, by rw [el], ⟨by omega, by omega, h3⟩, fun i hi => ?_⟩
  obtain ⟨b, off, g1, g2, c, g3, g4⟩ := hc i (by omega)
  refine ⟨b, off, g1, g2, c, g3, ?_⟩
  rw [List.getElem_take]; exact g4
theorem atl_str {S : Nat → Prop} {w : World} {l : List ByteArray} {oa : Option Addr} {n cap : Nat} (h : AtL S w l (.slice oa n cap)) (i : Nat) (hi : i < l.length) : ∃ b off, oa = some ⟨b, off, none⟩ ∧ S b ∧ w.cell? ⟨b, off + i, none⟩ = some (.string l[i]) := by
  obtain ⟨oa', cap', e, _, hc⟩ := h
  cases e
  obtain ⟨b, off, g1, g2, c, g3, g4⟩ := hc i hi
  rw [width_str] at g3
  rw [at_str] at g4
  refine ⟨b, off, g1, g2, ?_⟩
  have e0 : w.cell? ⟨b, off + i, none⟩ = some (c 0) := by simpa using g3 0 (by omega)
  rw [e0, g4.1]
/-- The one at i fits behind those before it. -/
def fitB (Bs : List DShareBatch) (O : List ByteArray) (i : Nat) : Bool := !(decide (atI Bs (O[i]?.getD default) < 0)) && !(hasB (O.take i) (O[i]?.getD default)) && canB Bs (atI Bs (O[i]?.getD default)).toNat (O.take i)
noncomputable def fitsB (D : DShareBook) (O : List ByteArray) : Bool := bokB D && decide (O.length = D.2.length) && (List.range O.length).all (fitB D.2 O)
theorem fits_no {D : DShareBook} {O : List ByteArray} {i : Nat} (hi : i < O.length) (h : fitB D.2 O i = false) : fitsB D O = false := by
  unfold fitsB
  have : (List.range O.length).all (fitB D.2 O) = false := by
    rw [List.all_eq_false]
    exact ⟨i, List.mem_range.2 hi, by rw [h]; simp⟩
  rw [this]; simp
theorem fits_yes {D : DShareBook} {O : List ByteArray} (h0 : bokB D = true) (h1 : O.length = D.2.length) (h : ∀ i, i < O.length → fitB D.2 O i = true) : fitsB D O = true := by
  unfold fitsB
  have : (List.range O.length).all (fitB D.2 O) = true := by
    rw [List.all_eq_true]
    intro i hi
    exact h i (List.mem_range.1 hi)
  rw [this, h0]; simp [h1]
theorem atZ_q (S : Nat → Prop) (T : List ByteArray) (Bs : List DShareBatch) (o0 oa : Option Addr) (n0 k0 nb kb : Nat) (x : ByteArray) (wr : World) (h0 : AtL S wr T (.slice o0 n0 k0)) (h1 : AtL S wr Bs (.slice oa nb kb)) (hS : ∀ b, S b → b < wr.heap.size) (r : Int) (hr : atI Bs x = r) (d : Nat) (os : Array Obj) : Calls Try.prog 14 #[.agg #[.slice o0 n0 k0, .slice oa nb kb], .string x] (grow (redrawn wr d) os) fun e w'' => e = .returned (.int .i64 r) ∧ ∃ p : Regrown, w'' = grow (redrawn wr p.d) p.os :=
  Calls.regrown_of ((atZ_any S T Bs _ _ _ _ _ _ x _ (h0.same (Same.of_below (below_regrown wr d os) hS)) (h1.same (Same.of_below (below_regrown wr d os) hS)) (fun b hb => Nat.lt_of_lt_of_le (hS b hb) (below_regrown wr d os).size)).mono fun _ _ ⟨he, hw⟩ => ⟨by subst hr; exact he, hw⟩)
theorem canZ_q (S : Nat → Prop) (T : List ByteArray) (Bs : List DShareBatch) (o0 oa : Option Addr) (n0 k0 nb kb : Nat) (SG : Nat → Prop) (gone : List ByteArray) (og : Option Addr) (ng kg a : Nat) (wr : World) (h0 : AtL S wr T (.slice o0 n0 k0)) (h1 : AtL S wr Bs (.slice oa nb kb)) (hS : ∀ b, S b → b < wr.heap.size) (hG : AtL SG wr gone (.slice og ng kg)) (hSG : ∀ b, SG b → b < wr.heap.size) (ha : a < Bs.length) (r : Bool) (hr : canB Bs a gone = r) (d : Nat) (os : Array Obj) : Calls Try.prog 16 #[.agg #[.slice o0 n0 k0, .slice oa nb kb], .int .i64 a, .slice og ng kg] (grow (redrawn wr d) os) fun e w'' => e = .returned (.bool r) ∧ ∃ p : Regrown, w'' = grow (redrawn wr p.d) p.os :=
  Calls.regrown_of ((canZ_any S T Bs _ _ _ _ _ _ SG gone og ng kg a _ (h0.same (Same.of_below (below_regrown wr d os) hS)) (h1.same (Same.of_below (below_regrown wr d os) hS)) (fun b hb => Nat.lt_of_lt_of_le (hS b hb) (below_regrown wr d os).size) (hG.same (Same.of_below (below_regrown wr d os) hSG)) (fun b hb => Nat.lt_of_lt_of_le (hSG b hb) (below_regrown wr d os).size) ha).mono fun _ _ ⟨he, hw⟩ => ⟨by subst hr; exact he, hw⟩)

set_option maxRecDepth 100000 in
set_option maxHeartbeats 8000000 in
theorem fitsZ_any (S : Nat → Prop) (T : List ByteArray) (Bs : List DShareBatch) (o0 oa : Option Addr) (n0 k0 nb kb : Nat) (SO : Nat → Prop) (O : List ByteArray) (oo : Option Addr) (no ko : Nat) (w : World) (h0 : AtL S w T (.slice o0 n0 k0)) (h1 : AtL S w Bs (.slice oa nb kb)) (hS : ∀ b, S b → b < w.heap.size) (hO : AtL SO w O (.slice oo no ko)) (hSO : ∀ b, SO b → b < w.heap.size) :
    Calls Try.prog 6 #[.agg #[.slice o0 n0 k0, .slice oa nb kb], .slice oo no ko] w fun e w' => e = .returned (.bool (fitsB (T, Bs) O)) ∧ Below w.heap.size w w' := by
  have enb : Bs.length = nb := by obtain ⟨_, _, e, _⟩ := h1; cases e; rfl
  have hmx : nb ≤ 9223372036854775807 := by obtain ⟨_, _, e, hf, _⟩ := id h1; cases e; have := hf.1; unfold maxLen at this; omega
  have ENB : Hid (Bs.length ≤ nb ∧ nb ≤ Bs.length) := ⟨by omega, by omega⟩
  have H0 : Hid (∀ u, Below w.heap.size w u → AtL S u T (.slice o0 n0 k0)) := fun u hu => h0.same (Same.of_below hu hS)
  have H1 : Hid (∀ u, Below w.heap.size w u → AtL S u Bs (.slice oa nb kb)) := fun u hu => h1.same (Same.of_below hu hS)
  have HS : Hid (∀ u, Below w.heap.size w u → ∀ b, S b → b < u.heap.size) := fun u hu b hb => Nat.lt_of_lt_of_le (hS b hb) hu.size
  obtain ⟨W, hW⟩ : ∃ W, W = w.alloc (.cells #[.slice o0 n0 k0, .slice oa nb kb] 31) := ⟨_, rfl⟩
  have EW : Hid (W = w.alloc (.cells #[.slice o0 n0 k0, .slice oa nb kb] 31)) := hW
  have BW : Hid (Below w.heap.size w W) := by rw [hW]; exact (Below.refl _ _).alloc (Nat.le_refl _) _
  have RW : Hid (W.heap[w.heap.size]? = some (.cells #[.slice o0 n0 k0, .slice oa nb kb] 31 (0, 0))) := by rw [hW]; exact heap_alloc_new w _
  have sW : w.heap.size + 1 ≤ W.heap.size := by rw [hW]; simp
  clear hW enb
  have BOX : Hid (∀ u, Below W.heap.size W u → u.heap[w.heap.size]? = some (.cells #[.slice o0 n0 k0, .slice oa nb kb] 31 (0, 0)) ∧ Below w.heap.size w u) := fun u hu => ⟨(hu.block _ (by omega)).trans RW.out, BW.out.trans (hu.mono (by omega))⟩
  obtain ⟨R, hR⟩ : ∃ R, R = fitsB (T, Bs) O := ⟨_, rfl⟩
  have HRR : Hid (R = fitsB (T, Bs) O) := hR
  rw [← hR]
  clear hR
  have eno : O.length = no := by obtain ⟨_, _, e, _⟩ := hO; cases e; rfl
  have hmo : no ≤ 9223372036854775807 ∧ no ≤ ko := by obtain ⟨_, _, e, hf, _⟩ := id hO; cases e; have := hf.1; have := hf.2.1; unfold maxLen at *; omega
  have ENO : Hid (O.length ≤ no ∧ no ≤ O.length) := ⟨by omega, by omega⟩
  clear eno
  have HO : Hid (∀ u, Below w.heap.size w u → AtL SO u O (.slice oo no ko)) := fun u hu => hO.same (Same.of_below hu hSO)
  have HSO : Hid (∀ u, Below w.heap.size w u → ∀ b, SO b → b < u.heap.size) := fun u hu b hb => Nat.lt_of_lt_of_le (hSO b hb) hu.size
  have HB := Below.refl W.heap.size W
  have y0 := (cell_row (BOX.out W HB).1 0 (.slice o0 n0 k0) rfl).1
  have y1 := (cell_row (BOX.out W HB).1 1 (.slice oa nb kb) rfl).1
  have CB : Hid (Calls Try.prog 13 #[.agg #[.slice o0 n0 k0, .slice oa nb kb]] W fun e w' => e = .returned (.bool (bokB (T, Bs))) ∧ Below W.heap.size W w') := bookZ_any S (T, Bs) _ _ W (H0.out W BW.out) (H1.out W BW.out) (HS.out W BW.out)
  go_enter Try.func6, Try.ntmps6
  go_upto_region 1 with fail
  rw [← EW.out]
  go_wp2_with fail
  refine CB.out.mono ?_; rintro e u ⟨rfl, hbu⟩
  have BU : Hid (Below W.heap.size W u) := hbu
  have bu := (BOX.out u hbu).2
  clear y0 y1 CB HB
  have y1 := (cell_row (BOX.out u BU.out).1 1 (.slice oa nb kb) rfl).1
  clear hbu
  cases hbk : bokB (T, Bs)
  · have er : R = false := by rw [HRR.out]; unfold fitsB; rw [hbk]; rfl
    go_wp2_with fail
    go_ret
    rw [er]
    exact ⟨rfl, bu⟩
  by_cases hle : no = nb
  case neg =>
    have er : R = false := by
      rw [HRR.out]; unfold fitsB
      have : decide (O.length = Bs.length) = false := by have := ENO.out; have := ENB.out; simp; omega
      simp only [this, Bool.and_false, Bool.false_and]
    have hq0 : ((no : Int) == (nb : Int)) = false := by simp; omega
    have hq1 : ((no : Int) != (nb : Int)) = true := by simp; omega
    go_wp2_with fail
    go_ret
    rw [er]
    exact ⟨rfl, bu⟩
  have hq0 : ((no : Int) == (nb : Int)) = true := by simp [hle]
  have hq1 : ((no : Int) != (nb : Int)) = false := by simp [hle]
  have HLE : Hid (no = nb) := hle
  clear hle
  go_wp2_with fail
  clear hq0 hq1 y1
  go_loopw [5] (fun i wr => ∃ q : Nat, q ≤ no ∧ i = .int .i64 q ∧ Hid (∀ j, j < q → fitB Bs O j = true) ∧ Hid (Below W.heap.size W wr)) (fun i _ => no - (intOf i).toNat)
  case atStart => exact ⟨0, Nat.zero_le _, rfl, fun _ h => by omega, BU⟩
  case round =>
    obtain ⟨q, hq, rfl, hall, hbel⟩ := hrel
    have HB := hbel.out
    have bwr := (BOX.out wr HB).2
    have hsz := HB.size
    have y0 := (cell_row (BOX.out wr HB).1 0 (.slice o0 n0 k0) rfl).1
    have y1 := (cell_row (BOX.out wr HB).1 1 (.slice oa nb kb) rfl).1
    by_cases hlt : q < no
    case neg =>
      have er : R = true := by rw [HRR.out]; exact fits_yes hbk (by have := ENO.out; have := ENB.out; have := HLE.out; simp only; omega) (fun i hi => hall.out i (by have := ENO.out; omega))
      go_wp2_with fail
      go_ret
      rw [er]
      exact ⟨rfl, bwr⟩
    have hqo : q < O.length := by have := ENO.out; omega
    obtain ⟨ob, off, rfl, hobS, x0⟩ := atl_str (HO.out wr bwr) q hqo
    obtain ⟨f, ef⟩ : ∃ f, O[q] = f := ⟨_, rfl⟩
    rw [ef] at x0
    have hfi : fitB Bs O q = (!(decide (atI Bs f < 0)) && !(hasB (O.take q) f) && canB Bs (atI Bs f).toNat (O.take q)) := by unfold fitB; rw [show O[q]?.getD default = f by simp [hqo, ef]]
    have AH0 : Hid (AtL S wr T (.slice o0 n0 k0)) := H0.out wr bwr
    have AH1 : Hid (AtL S wr Bs (.slice oa nb kb)) := H1.out wr bwr
    have SW : Hid (∀ b, S b → b < wr.heap.size) := HS.out wr bwr
    have qy0 := fun d os => cell_regrown y0 d os
    have qy1 := fun d os => cell_regrown y1 d os
    have qx0 := fun d os => cell_regrown x0 d os
    obtain ⟨ai, eai⟩ : ∃ ai, atI Bs f = ai := ⟨_, rfl⟩
    rw [eai] at hfi
    clear y0 y1
    go_wp2
    refine wp_region_quiet_below (by kernel_rfl) (by kernel_rfl) ?_
    repeat (first | go_big_quiet_step (with_reducible exact atZ_q S T Bs _ _ _ _ _ _ f _ AH0.out AH1.out SW.out _ eai _ _) | quiet_step (with_reducible exact atZ_q S T Bs _ _ _ _ _ _ f _ AH0.out AH1.out SW.out _ eai _ _))
    refine wpQuiet_nil ?_
    intro _ hw'
    obtain ⟨⟨dq, osq⟩, hw''⟩ := hw'
    subst hw''
    clear qy0 qy1 qx0 AH0 AH1 SW
    have HB1 : Below W.heap.size W (grow (redrawn wr dq) osq) := HB.trans ((below_regrown _ dq osq).mono hsz)
    have x1 := cell_regrown x0 dq osq
    clear x0
    generalize grow (redrawn wr dq) osq = v1 at HB1 x1 ⊢
    have b1 := (BOX.out v1 HB1).2
    have s1 := HB1.size
    have y0 := (cell_row (BOX.out v1 HB1).1 0 (.slice o0 n0 k0) rfl).1
    have y1 := (cell_row (BOX.out v1 HB1).1 1 (.slice oa nb kb) rfl).1
    have AH0 : Hid (AtL S v1 T (.slice o0 n0 k0)) := H0.out v1 b1
    have AH1 : Hid (AtL S v1 Bs (.slice oa nb kb)) := H1.out v1 b1
    have SW : Hid (∀ b, S b → b < v1.heap.size) := HS.out v1 b1
    have AG : Hid (AtL SO v1 (O.take q) (.slice (some ⟨ob, off, none⟩) q ko)) := atl_take (HO.out v1 b1) q (by omega)
    have SGW : Hid (∀ b, SO b → b < v1.heap.size) := HSO.out v1 b1
    have qy0 := fun d os => cell_regrown y0 d os
    have qy1 := fun d os => cell_regrown y1 d os
    have qx0 := fun d os => cell_regrown x1 d os
    have hkq : q ≤ ko := by omega
    clear y0 y1 x1
    by_cases hneg : ai < 0
    · have er : R = false := by rw [HRR.out]; exact fits_no hqo (by show fitB Bs O q = false; rw [hfi]; simp [hneg])
      go_wp2
      refine wp_region_quiet_below (by kernel_rfl) (by kernel_rfl) ?_
      repeat (first | go_big_quiet_step (fail) | quiet_step (fail))
      refine wpQuiet_nil ?_
      intro _ hw'
      obtain ⟨⟨dq, osq⟩, hw''⟩ := hw'
      subst hw''
      go_wp2
      go_ret
      rw [er]
      exact ⟨rfl, b1.trans ((below_regrown _ dq osq).mono b1.size)⟩
    have hde : decide (ai < 0) = false := by simpa using hneg
    obtain ⟨a, ea, hab⟩ := at_lt (eai ▸ hneg)
    rw [eai] at ea
    subst ea
    rw [hde, Int.toNat_natCast] at hfi
    have hna : ¬ ((a : Int) < 0) := by omega
    clear hneg hde eai
    cases c0 : hasB (O.take q) f
    case true =>
      have er : R = false := by rw [HRR.out]; exact fits_no hqo (by show fitB Bs O q = false; rw [hfi, c0]; simp)
      go_wp2
      refine wp_region_quiet_below (by kernel_rfl) (by kernel_rfl) ?_
      repeat (first | go_big_quiet_step (with_reducible exact hasZ_q SO _ (O.take q) _ _ AG.out SGW.out _ c0 _ _) | quiet_step (with_reducible exact hasZ_q SO _ (O.take q) _ _ AG.out SGW.out _ c0 _ _))
      refine wpQuiet_nil ?_
      intro _ hw'
      obtain ⟨⟨dq, osq⟩, hw''⟩ := hw'
      subst hw''
      go_wp2
      go_ret
      rw [er]
      exact ⟨rfl, b1.trans ((below_regrown _ dq osq).mono b1.size)⟩
    cases c1 : canB Bs a (O.take q)
    · have er : R = false := by rw [HRR.out]; exact fits_no hqo (by show fitB Bs O q = false; rw [hfi, c1]; simp)
      go_wp2
      refine wp_region_quiet_below (by kernel_rfl) (by kernel_rfl) ?_
      repeat (first | go_big_quiet_step (first | (with_reducible exact hasZ_q SO _ (O.take q) _ _ AG.out SGW.out _ c0 _ _) | (with_reducible exact canZ_q S T Bs _ _ _ _ _ _ SO (O.take q) _ _ _ a _ AH0.out AH1.out SW.out AG.out SGW.out hab _ c1 _ _)) | quiet_step (first | (with_reducible exact hasZ_q SO _ (O.take q) _ _ AG.out SGW.out _ c0 _ _) | (with_reducible exact canZ_q S T Bs _ _ _ _ _ _ SO (O.take q) _ _ _ a _ AH0.out AH1.out SW.out AG.out SGW.out hab _ c1 _ _)))
      refine wpQuiet_nil ?_
      intro _ hw'
      obtain ⟨⟨dq, osq⟩, hw''⟩ := hw'
      subst hw''
      go_wp2
      go_ret
      rw [er]
      exact ⟨rfl, b1.trans ((below_regrown _ dq osq).mono b1.size)⟩
    have hw0 : fitB Bs O q = true := by rw [hfi, c0, c1]; rfl
    go_wp2
    refine wp_region_quiet_below (by kernel_rfl) (by kernel_rfl) ?_
    repeat (first | go_big_quiet_step (first | (with_reducible exact hasZ_q SO _ (O.take q) _ _ AG.out SGW.out _ c0 _ _) | (with_reducible exact canZ_q S T Bs _ _ _ _ _ _ SO (O.take q) _ _ _ a _ AH0.out AH1.out SW.out AG.out SGW.out hab _ c1 _ _)) | quiet_step (first | (with_reducible exact hasZ_q SO _ (O.take q) _ _ AG.out SGW.out _ c0 _ _) | (with_reducible exact canZ_q S T Bs _ _ _ _ _ _ SO (O.take q) _ _ _ a _ AH0.out AH1.out SW.out AG.out SGW.out hab _ c1 _ _)))
    refine wpQuiet_nil ?_
    intro _ hw'
    obtain ⟨⟨dq, osq⟩, hw''⟩ := hw'
    subst hw''
    go_wp2
    go_roundw
    case rel => exact ⟨q + 1, by omega, by go_num, fun j hj => by
      by_cases e : j = q
      · subst e; exact hw0
      · exact hall.out j (by omega), HB1.trans ((below_regrown _ dq osq).mono s1)⟩
    case measure => simp [intOf]; omega

end Go.Proofs.Ytomfooddehddhac
