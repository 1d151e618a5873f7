/-
  Several texts in one.
-/
import Derived.Test.YtobchllaopdchacGreatM11
import Derived.Test.YtobchllaopdchacGreatM16
import Derived.Test.YtobchllaopdchacGreatM3
import Derived.Test.YtobchllaopdchacGreatM10
import Derived.Test.YtobchllaopdchacGreatZma
import Derived.Deep.Cut
namespace Go.Proofs.YtobchllaopdchacGreat
open Go.RowKit Go.Sort
theorem tot_el {α : Type} [Lay α] {l : List α} {m : Nat} (h : totL l ≤ m) {x : α} (hx : x ∈ l) : Lay.tot x ≤ m := by
  obtain ⟨i, hi, rfl⟩ := List.getElem_of_mem hx
  exact Nat.le_trans (totL_el l i hi) h
theorem thing_small {sl : List DRunSlot} (h : totL sl ≤ 1048576) : ∀ s ∈ sl, s.2.size ≤ 1048576 := fun s hs => by
  have := tot_el h hs
  rw [tot_DRunSlot] at this
  omega
set_option maxRecDepth 100000 in
set_option maxHeartbeats 8000000 in
theorem slotsOkP_any (S : Nat → Prop) (nm at_ : ByteArray) (r : List DRecPhase) (sl : List DRunSlot) (si st : Int) (o1 o2 : Option Addr) (n1 k1 n2 k2 : Nat) (w : World) (hr : AtL S w r (.slice o1 n1 k1)) (h : AtL S w sl (.slice o2 n2 k2)) (hS : ∀ b, S b → b < w.heap.size) (tr : totL r ≤ 1048576) (ts : totL sl ≤ 1048576) (hR : RecP r) :
    Calls Tryz.prog 110 #[.agg #[.string nm, .slice o1 n1 k1, .slice o2 n2 k2, .string at_, .int .i64 si, .int .i64 st]] w fun e w' => e = .returned (.bool (slB r sl)) ∧ Below w.heap.size w w' := by
  have en1 : r.length = n1 := by obtain ⟨_, _, e, _⟩ := hr; cases e; rfl
  have hr0 : 0 < r.length := by have := hR.1; omega
  have hn1 : 0 < n1 := by omega
  have HF := fst_at hr0
  obtain ⟨bb, off, rfl, hbb, e0⟩ : ∃ b off, o1 = some ⟨b, off, none⟩ ∧ b < w.heap.size ∧ w.cell? ⟨b, off, none⟩ = some (.string (fstN r)) := by
    obtain ⟨oa, cap, ev, _, hc⟩ := id hr
    obtain ⟨b, off, eo, hbS, cc, hcell, hat⟩ := hc 0 hr0
    rw [width_DRecPhase] at hcell
    rw [at_DRecPhase, HF] at hat
    cases ev
    exact ⟨b, off, eo, hS b hbS, (by have hq := hcell 0 (by omega); first | exact hq | simpa using hq : w.cell? ⟨b, off, none⟩ = some (cc 0)).trans (by rw [hat.1.1])⟩
  have hfs : (fstN r).size ≤ 1048576 := by
    have := tot_el tr (List.getElem_mem hr0)
    rw [tot_DRecPhase, HF] at this
    omega
  obtain ⟨W, EW, BW, RW, sW⟩ := box_new w #[.string nm, .slice (some ⟨bb, off, none⟩) n1 k1, .slice o2 n2 k2, .string at_, .int .i64 si, .int .i64 st] 49
  have BOX : Hid (∀ u, Below W.heap.size W u → u.heap[w.heap.size]? = some (.cells #[.string nm, .slice (some ⟨bb, off, none⟩) n1 k1, .slice o2 n2 k2, .string at_, .int .i64 si, .int .i64 st] 49 (0, 0)) ∧ Below w.heap.size w u) := fun u hu => ⟨(hu.block _ (by omega)).trans RW.out, BW.out.trans (hu.mono (by omega))⟩
  have HR : Hid _ := hr.ups hS
  have HA : Hid _ := h.ups hS
  have HS : Hid _ := lt_up hS
  have h0 := fun u (hu : Below W.heap.size W u) => cell_row (BOX.out u hu).1
  have Y : Hid (∀ u, Below W.heap.size W u → u.cell? ⟨w.heap.size, 0, none⟩ = some (.string nm) ∧ u.cell? ⟨w.heap.size, 1, none⟩ = some (.slice (some ⟨bb, off, none⟩) n1 k1) ∧ u.cell? ⟨w.heap.size, 2, none⟩ = some (.slice o2 n2 k2) ∧ u.cell? ⟨w.heap.size, 3, none⟩ = some (.string at_) ∧ u.cell? ⟨w.heap.size, 4, none⟩ = some (.int .i64 si) ∧ u.cell? ⟨w.heap.size, 5, none⟩ = some (.int .i64 st)) := fun u hu =>
    ⟨(h0 u hu 0 _ rfl).1, (h0 u hu 1 _ rfl).1, (h0 u hu 2 _ rfl).1, (h0 u hu 3 _ rfl).1, (h0 u hu 4 _ rfl).1, (h0 u hu 5 _ rfl).1⟩
  clear h0
  obtain ⟨L, hL⟩ : ∃ L, L = sltF 12 r (fstN r) := ⟨_, rfl⟩
  have hsl : slL r (fstN r) = L := by rw [hL]; unfold slL; rw [rec_yes hR]; rfl
  have hll : L.length ≤ 8192 := by rw [hL]; exact slt_small r (by omega) _
  have ASC : Hid (AscL L) := by rw [hL]; exact slt_asc r 12 _
  have TWO : Hid (slB r sl = true ↔ EqP L sl ∧ (thL sl L).length = L.length) := by rw [hL]; exact slB_two r sl
  have CS : Hid (∀ u, Below w.heap.size w u → Calls Tryz.prog 143 #[.slice (some ⟨bb, off, none⟩) n1 k1, .string (fstN r)] u fun e w' => ∃ q, e = .returned q ∧ OnL (fun b => u.heap.size ≤ b ∧ b < w'.heap.size) w' L q ∧ Below u.heap.size u w') := fun u hu => by
    rw [← hsl]; exact slotsI_any S r _ _ u (HR.out u hu) (HS.out u hu) tr hfs
  have TS : Hid (totL sl ≤ 1048576) := ts
  obtain ⟨R, hRR⟩ : ∃ R, R = slB r sl := ⟨_, rfl⟩
  rw [← hRR] at TWO ⊢
  clear hRR hL hsl h hr HF en1 hr0 hR tr ts hfs hS
  have e1 := (BW.out.cell (p := ⟨bb, off, none⟩) hbb).trans e0
  obtain ⟨y0, y1, y2, y3, y4, y5⟩ := Y.out W (Below.refl _ _)
  have q1 := fun d os => cell_regrown y1 d os
  have qe := fun d os => cell_regrown e1 d os
  have HDR : Hid (Below W.heap.size W W.drew) := (Below.refl _ _).drew
  clear y0 y1 y2 y3 y4 y5 e0 e1
  go_enter Tryz.func110, Tryz.ntmps110
  go_upto_region 1 with fail
  rw [← EW.out]
  refine wp_region_mix 7 [0, 1, 2, 3, 4, 5, 6] (by kernel_rfl) (by kernel_rfl) ?_
  simp only [List.filterMap_cons, List.filterMap_nil, List.getElem?_cons_succ, List.getElem?_cons_zero]
  repeat (first | go_big_quiet_step (fail) | quiet_step (fail))
  refine wpQuiet_nil ?_
  clear q1 qe
  have bdr : Hid (Below w.heap.size w W.drew) := BW.out.trans (HDR.out.mono BW.out.size)
  refine ⟨by kernel_rfl, ?_⟩
  simp only [List.drop_succ_cons, List.drop_zero]
  go_wp2_with fail
  refine (CS.out W.drew bdr.out).mono ?_; rintro e w1 ⟨q, rfl, hq, hb1⟩
  have B1 : Hid (Below W.heap.size W w1) := HDR.out.trans (hb1.mono HDR.out.size)
  have AL : Hid (AtL (fun b => w.heap.size ≤ b ∧ b < w1.heap.size) w1 L q) := hq.at_.up (fun b hb => ⟨Nat.le_trans bdr.out.size hb.1, hb.2⟩)
  obtain ⟨ol, cl, eq, _⟩ := id AL.out
  obtain ⟨nl, enl⟩ : ∃ n, L.length = n := ⟨_, rfl⟩
  have ENL : Hid (L.length ≤ nl ∧ nl ≤ L.length) := ⟨by omega, by omega⟩
  rw [enl] at eq hll
  subst eq
  clear hq hb1 enl
  have BW1 : Hid (Below w.heap.size w w1) := (BOX.out w1 B1.out).2
  obtain ⟨y0, y1, y2, y3, y4, y5⟩ := Y.out w1 B1.out
  go_wp2_with fail
  refine (eqf_any S _ sl L _ _ w1 (HA.out _ BW1.out) AL.out (HS.out _ BW1.out) (fun b hb => hb.2)).mono ?_; rintro e w2 ⟨rfl, hb2⟩
  have B2 : Hid (Below W.heap.size W w2) := B1.out.trans (hb2.mono B1.out.size)
  have C2 : Hid (Below w1.heap.size w1 w2) := hb2
  clear hb2 y0 y1 y2 y3 y4 y5
  have BW2 : Hid (Below w.heap.size w w2) := (BOX.out w2 B2.out).2
  obtain ⟨y0, y1, y2, y3, y4, y5⟩ := Y.out w2 B2.out
  cases c : eqPB L sl
  · have er : R = false := by
      cases hR : R with
      | false => rfl
      | true => have := (TWO.out.1 hR).1; rw [eqp_yes this] at c; cases c
    clear y0 y1 y2 y3 y4 y5
    go_wp2_with fail
    go_ret
    rw [er]
    exact ⟨rfl, BW2.out⟩
  have HE := eqp_iff.1 c
  have HD : Hid ((sl.map (·.1)).Nodup) := HE.dist ASC.out
  have TW : Hid (R = decide ((thL sl L).length = L.length)) := by
    show _ = _
    by_cases hl : (thL sl L).length = L.length
    · rw [decide_eq_true hl]; exact TWO.out.2 ⟨HE, hl⟩
    · rw [decide_eq_false hl]
      cases hR : R with
      | false => rfl
      | true => exact absurd (TWO.out.1 hR).2 hl
  clear HE
  go_wp2_with fail
  refine (slotThings_any S sl nm at_ _ _ si st w2 (HA.out _ BW2.out) (HS.out _ BW2.out) HD.out ⟨_, _, _, rfl⟩).mono ?_; rintro e w3 ⟨m, rfl, hm, hM, hb3⟩
  have MM : Hid (Mr w3 m (thO sl)) := hM
  have C3 : Hid (Below w1.heap.size w1 w3) := C2.out.trans (hb3.mono C2.out.size)
  have BW3 : Hid (Below w.heap.size w w3) := BW2.out.trans (hb3.mono BW2.out.size)
  clear hM hb3 hm y0 y1 y2 y3 y4 y5
  have AL3 : Hid (AtL (fun b => w.heap.size ≤ b ∧ b < w1.heap.size) w3 L (.slice ol nl cl)) := AL.out.same (Same.of_below C3.out (fun b hb => hb.2))
  have s3 := C3.out.size
  go_wp2_with fail
  refine (things_any _ sl L _ m w3 AL3.out (fun b hb => by omega) MM.out (by have := ENL.out; omega) (thing_small TS.out)).mono ?_; rintro e w4 ⟨q, rfl, hrow, hb4⟩
  obtain ⟨o5, c5, hf⟩ := Row.form hrow
  have BW4 : Hid (Below w.heap.size w w4) := BW3.out.trans (hb4.mono BW3.out.size)
  obtain ⟨nt, ent⟩ : ∃ n, (thL sl L).length = n := ⟨_, rfl⟩
  rw [show (bothL [] (L.map (thT sl))).length = nt from ent] at hf
  have hnt : nt ≤ nl := by have := thL_len sl L; have := ENL.out; omega
  have TF : Hid (R = decide (nt = nl)) := by rw [TW.out, ent]; show decide _ = decide _; congr 1; have := ENL.out; apply propext; omega
  subst hf
  clear hrow hb4 ent
  by_cases hl : nt = nl
  · have er : R = true := by rw [TF.out, decide_eq_true hl]
    subst hl
    go_wp2_with fail
    go_ret
    rw [er]
    exact ⟨rfl, BW4.out⟩
  · have er : R = false := by rw [TF.out, decide_eq_false hl]
    have hb : ((nt : Int) == (nl : Int)) = false := by rw [beq_eq_false_iff_ne]; omega
    go_wp2_with fail
    go_ret
    rw [er]
    exact ⟨rfl, BW4.out⟩
end Go.Proofs.YtobchllaopdchacGreat

namespace Go.Proofs.YtobchllaopdchacGreat
open Go.RowKit
theorem tg_len (b : DRunBatch) (x : ByteArray) : (tgL b x).length ≤ 8192 := by
  unfold tgL
  split
  · exact Nat.le_trans (thL_len _ _) (slt_small _ (Nat.le_refl _) _)
  · simp
end Go.Proofs.YtobchllaopdchacGreat

namespace Go.Proofs.YtobchllaopdchacGreat
open Go.RowKit Go.Sort
open Go.Sort in
theorem namesZ_q (S SA : Nat → Prop) (v va : Value) (l all : List ByteArray) (wr : World) (h : AtL S wr l v) (ha : AtL SA wr all va) (hS : ∀ b, S b → b < wr.heap.size) (hSA : ∀ b, SA b → b < wr.heap.size) (r : Bool) (hr : subB all l = r) (d : Nat) (os : Array Obj) : Calls Tryz.prog 129 #[v, va] (grow (redrawn wr d) os) fun e w'' => e = .returned (.bool r) ∧ ∃ p : Regrown, w'' = grow (redrawn wr p.d) p.os :=
  Calls.regrown_of ((namesZ_any S SA v va l all _ (h.same (Same.of_below (below_regrown wr d os) hS)) (ha.same (Same.of_below (below_regrown wr d os) hSA)) (fun b hb => Nat.lt_of_lt_of_le (hS b hb) (below_regrown wr d os).size) (fun b hb => Nat.lt_of_lt_of_le (hSA b hb) (below_regrown wr d os).size)).mono fun _ _ ⟨he, hw⟩ => ⟨by subst hr; exact he, hw⟩)
open Go.Sort in
theorem shareZ_q (S : Nat → Prop) (va vb : Value) (a b : List ByteArray) (wr : World) (ha : AtL S wr a va) (hb : AtL S wr b vb) (hS : ∀ b, S b → b < wr.heap.size) (r : Bool) (hr : shareB a b = r) (d : Nat) (os : Array Obj) : Calls Tryz.prog 130 #[va, vb] (grow (redrawn wr d) os) fun e w'' => e = .returned (.bool r) ∧ ∃ p : Regrown, w'' = grow (redrawn wr p.d) p.os :=
  Calls.regrown_of ((shareZ_any S va vb a b _ (ha.same (Same.of_below (below_regrown wr d os) hS)) (hb.same (Same.of_below (below_regrown wr d os) hS)) (fun b hb => Nat.lt_of_lt_of_le (hS b hb) (below_regrown wr d os).size)).mono fun _ _ ⟨he, hw⟩ => ⟨by subst hr; exact he, hw⟩)
noncomputable def batB (T : List ByteArray) (p : Option DShareBatch) (x : DShareBatch) : Bool := nameB x.1 && asO (fun a b : DShareBatch => ltB a.1 b.1) p x && subB T x.2.2 && subB x.2.2 x.2.1
structure RowP (D : DShareBook) (i : Nat) (hi : i < D.2.length) : Prop where
  bat : batB D.1 (prevO D.2 i) D.2[i] = true
  sha : ∀ k (hk : k < i), shareB D.2[i].2.1 (D.2[k]'(by omega)).2.1 = false
structure BokP (D : DShareBook) : Prop where
  things : okB 8 (tst nameB ltB) D.1 = true
  len : D.2.length ≤ 5
  row : ∀ i (hi : i < D.2.length), RowP D i hi
noncomputable def bokB (D : DShareBook) : Bool := @decide (BokP D) (Classical.propDecidable _)
theorem bok_yes {D : DShareBook} (h : BokP D) : bokB D = true := by unfold bokB; exact @decide_eq_true _ (Classical.propDecidable _) h
theorem bok_no {D : DShareBook} (h : ¬ BokP D) : bokB D = false := by unfold bokB; exact @decide_eq_false _ (Classical.propDecidable _) h
theorem bok_iff {D : DShareBook} : bokB D = true ↔ BokP D := by unfold bokB; exact @decide_eq_true_iff _ (Classical.propDecidable _)
set_option maxRecDepth 100000 in
set_option maxHeartbeats 16000000 in
theorem bookZ_any (S : Nat → Prop) (D : DShareBook) (v0 v1 : Value) (w : World) (h0 : AtL S w D.1 v0) (h1 : AtL S w D.2 v1) (hS : ∀ b, S b → b < w.heap.size) :
    Calls Tryz.prog 95 #[.agg #[v0, v1]] w fun e w' => e = .returned (.bool (bokB D)) ∧ Below w.heap.size w w' := by
  obtain ⟨o0, k0, rfl, _⟩ := id h0
  obtain ⟨oa, kb, rfl, hfit, hc⟩ := id h1
  have H0 : Hid _ := h0.ups hS
  have HL : Hid (∀ u, Below w.heap.size w u → ∀ (l : List ByteArray) (v : Value), AtL S w l v → AtL S u l v) := fun u hu l v h => h.same (Same.of_below hu hS)
  have HS : Hid _ := lt_up hS
  have HC : Hid _ := hc
  obtain ⟨T, Bs⟩ := D
  simp only at H0 HC hfit
  obtain ⟨n0, en0⟩ : ∃ n, T.length = n := ⟨_, rfl⟩
  obtain ⟨nb, enb⟩ : ∃ n, Bs.length = n := ⟨_, rfl⟩
  have ENB : Hid (Bs.length ≤ nb ∧ nb ≤ Bs.length) := ⟨by omega, by omega⟩
  simp only
  rw [en0] at H0
  rw [en0, enb]
  have hmx : nb ≤ maxLen := by rw [← enb]; exact hfit.1
  unfold maxLen at hmx
  clear h0 h1 hc hfit en0 enb
  obtain ⟨W, EW, BW, RW, sW⟩ := box_new w #[.slice o0 n0 k0, .slice oa nb kb] 34
  have BOX : Hid (∀ u, Below W.heap.size W u → u.heap[w.heap.size]? = some (.cells #[.slice o0 n0 k0, .slice oa nb kb] 34 (0, 0)) ∧ Below w.heap.size w u) := fun u hu => ⟨(hu.block _ (by omega)).trans RW.out, BW.out.trans (hu.mono (by omega))⟩
  go_enter Tryz.func95, Tryz.ntmps95
  go_wp2_with fail
  rw [← EW.out]
  refine (thingsZ_any S _ T W (H0.out W BW.out) (HS.out W BW.out)).mono ?_; rintro e u1 ⟨rfl, hb1⟩
  have B1 : Hid (Below W.heap.size W u1) := hb1
  clear hb1
  cases hT : okB 8 (tst nameB ltB) T
  · go_wp2_with fail
    go_ret
    rw [bok_no (fun h => by have := h.things; simp only at this; rw [hT] at this; cases this)]
    exact ⟨rfl, (BOX.out u1 B1.out).2⟩
  have y1 := (cell_row (BOX.out u1 B1.out).1 1 (.slice oa nb kb) rfl).1
  by_cases hlen : nb ≤ 5
  case neg =>
    have d5 : decide ((5 : Int) < (nb : Int)) = true := by simp; omega
    go_wp2_with fail
    go_ret
    rw [bok_no (fun h => by have := h.len; have := ENB.out; simp only at *; omega)]
    exact ⟨rfl, (BOX.out u1 B1.out).2⟩
  have d5 : decide ((5 : Int) < (nb : Int)) = false := by simp; omega
  go_wp2_with fail
  clear y1 d5
  go_loopw [3] (fun i wr => ∃ q : Nat, q ≤ nb ∧ i = .int .i64 q ∧ Hid (∀ j (hj : j < Bs.length), j < q → RowP (T, Bs) j hj) ∧ Hid (Below W.heap.size W wr)) (fun i _ => nb - (intOf i).toNat)
  case atStart => exact ⟨0, Nat.zero_le _, rfl, fun _ _ h => by omega, B1⟩
  case round =>
    obtain ⟨q, hq, rfl, hall, hbel⟩ := hrel
    have y1 := (cell_row (BOX.out wr hbel.out).1 1 (.slice oa nb kb) rfl).1
    by_cases hlt : q < nb
    case neg =>
      go_wp2_with fail
      go_ret
      rw [bok_yes ⟨hT, by have := ENB.out; simp only; omega, fun i hi => hall.out i hi (by have := ENB.out; simp only at hi; omega)⟩]
      exact ⟨rfl, (BOX.out wr hbel.out).2⟩
    have hqb : q < Bs.length := by have := ENB.out; omega
    obtain ⟨bb, off, rfl, hbS, cc, hcell, hat⟩ := HC.out q hqb
    have hbb := HS.out w (Below.refl _ _) bb hbS
    rw [width_DShareBatch] at hcell
    obtain ⟨f, ef⟩ : ∃ f, Bs[q] = f := ⟨_, rfl⟩
    rw [at_DShareBatch, ef] at hat
    obtain ⟨nm, has, needs⟩ := f
    obtain ⟨⟨t0, z0⟩, a1, a2⟩ := hat
    simp only at t0 z0 a1 a2
    obtain ⟨o1, k1, t1, _⟩ := id a1
    obtain ⟨o2, k2, t2, _⟩ := id a2
    rw [t1] at a1
    rw [t2] at a2
    obtain ⟨n1, en1⟩ : ∃ n, has.length = n := ⟨_, rfl⟩
    obtain ⟨n2, en2⟩ : ∃ n, needs.length = n := ⟨_, rfl⟩
    rw [en1] at a1 t1
    rw [en2] at a2 t2
    have sq := hbel.out.size
    have bwr := (BOX.out wr hbel.out).2
    have e0 : wr.cell? ⟨bb, off + q * 3, none⟩ = some (.string nm) := (bwr.cell (p := ⟨bb, off + q * 3, none⟩) hbb).trans ((by have hq := hcell 0 (by omega); first | exact hq | simpa using hq : w.cell? ⟨bb, off + q * 3, none⟩ = some (cc 0)).trans (by rw [t0]))
    have e1 : wr.cell? ⟨bb, off + q * 3 + 1, none⟩ = some (.slice o1 n1 k1) := (bwr.cell (p := ⟨bb, off + q * 3 + 1, none⟩) hbb).trans ((hcell 1 (by omega)).trans (by rw [t1]))
    have e2 : wr.cell? ⟨bb, off + q * 3 + 2, none⟩ = some (.slice o2 n2 k2) := (bwr.cell (p := ⟨bb, off + q * 3 + 2, none⟩) hbb).trans ((hcell 2 (by omega)).trans (by rw [t2]))
    have A1 : Hid (AtL S w has (.slice o1 n1 k1)) := a1
    have A2 : Hid (AtL S w needs (.slice o2 n2 k2)) := a2
    have NAM : Hid (∀ (i : Nat) (hi : i < Bs.length), ∃ hv, w.cell? ⟨bb, off + i * 3, none⟩ = some (.string Bs[i].1) ∧ w.cell? ⟨bb, off + i * 3 + 1, none⟩ = some hv ∧ AtL S w Bs[i].2.1 hv) := fun i hi => by
      obtain ⟨b', off', e', _, dd, hcl, hat'⟩ := HC.out i hi
      cases e'
      rw [width_DShareBatch] at hcl
      rw [at_DShareBatch] at hat'
      exact ⟨dd 1, (by have hq := hcl 0 (by omega); first | exact hq | simpa using hq : w.cell? ⟨bb, off + i * 3, none⟩ = some (dd 0)).trans (by rw [hat'.1.1]), hcl 1 (by omega), hat'.2.1⟩
    clear hcell a1 a2 t0 t1 t2 en1 en2
    obtain ⟨X, hX⟩ : ∃ X, X = wr.alloc (.cells #[.string nm, .slice o1 n1 k1, .slice o2 n2 k2] 103) := ⟨_, rfl⟩
    have EX : Hid (X = wr.alloc (.cells #[.string nm, .slice o1 n1 k1, .slice o2 n2 k2] 103)) := hX
    have BX : Hid (Below W.heap.size W X) := by rw [hX]; exact hbel.out.alloc (by omega) _
    have RX : Hid (X.heap[wr.heap.size]? = some (.cells #[.string nm, .slice o1 n1 k1, .slice o2 n2 k2] 103 (0, 0))) := by rw [hX]; exact heap_alloc_new wr _
    have sX : wr.heap.size + 1 ≤ X.heap.size := by rw [hX]; simp
    clear hX
    go_upto_region 7 with fail
    rw [← EX.out]
    clear e0 e1 e2 y1
    have bX := (BOX.out X BX.out).2
    have rX := (BOX.out X BX.out).1
    have qy0 := fun d os => cell_regrown (cell_row rX 0 (.slice o0 n0 k0) rfl).1 d os
    have qy1 := fun d os => cell_regrown (cell_row rX 1 (.slice (some ⟨bb, off, none⟩) nb kb) rfl).1 d os
    have qn0 := fun d os => cell_regrown (cell_row RX.out 0 (.string nm) rfl).1 d os
    have qn1 := fun d os => cell_regrown (cell_row RX.out 1 (.slice o1 n1 k1) rfl).1 d os
    have qn2 := fun d os => cell_regrown (cell_row RX.out 2 (.slice o2 n2 k2) rfl).1 d os
    have AX1 : Hid (AtL S X has (.slice o1 n1 k1)) := HL.out X bX _ _ A1.out
    have AX2 : Hid (AtL S X needs (.slice o2 n2 k2)) := HL.out X bX _ _ A2.out
    have AX0 : Hid (AtL S X T (.slice o0 n0 k0)) := H0.out X bX
    have SX : Hid (∀ b, S b → b < X.heap.size) := HS.out X bX
    have HZ : Hid (nm.size ≤ maxLen) := z0
    clear z0
    rcases Nat.eq_zero_or_pos q with rfl | hpos
    · cases c0 : nameB nm
      · go_wp2
        refine wp_region_quiet_below (by kernel_rfl) (by kernel_rfl) ?_
        repeat (first | go_big_quiet_step (first | (with_reducible exact nameZ_q _ _ HZ.out _ c0 _ _)) | quiet_step (first | (with_reducible exact nameZ_q _ _ HZ.out _ c0 _ _)))
        refine wpQuiet_nil ?_
        intro _ hw'
        obtain ⟨⟨dq, osq⟩, hw''⟩ := hw'
        subst hw''
        go_wp2
        go_ret
        rw [bok_no (fun h => by
          have hb := (h.row 0 (by simp only; omega)).bat
          simp only at hb
          rw [prev_zero Bs, ef] at hb
          simp [batB, asO, c0] at hb)]
        exact ⟨rfl, bX.trans ((below_regrown _ dq osq).mono bX.size)⟩
      cases c2 : subB T needs
      · go_wp2
        refine wp_region_quiet_below (by kernel_rfl) (by kernel_rfl) ?_
        repeat (first | go_big_quiet_step (first | (with_reducible exact nameZ_q _ _ HZ.out _ c0 _ _) | (with_reducible exact namesZ_q S S _ _ needs T _ AX2.out AX0.out SX.out SX.out _ c2 _ _)) | quiet_step (first | (with_reducible exact nameZ_q _ _ HZ.out _ c0 _ _) | (with_reducible exact namesZ_q S S _ _ needs T _ AX2.out AX0.out SX.out SX.out _ c2 _ _)))
        refine wpQuiet_nil ?_
        intro _ hw'
        obtain ⟨⟨dq, osq⟩, hw''⟩ := hw'
        subst hw''
        go_wp2
        go_ret
        rw [bok_no (fun h => by
          have hb := (h.row 0 (by simp only; omega)).bat
          simp only at hb
          rw [prev_zero Bs, ef] at hb
          simp [batB, asO, c0, c2] at hb)]
        exact ⟨rfl, bX.trans ((below_regrown _ dq osq).mono bX.size)⟩
      cases c3 : subB needs has
      · go_wp2
        refine wp_region_quiet_below (by kernel_rfl) (by kernel_rfl) ?_
        repeat (first | go_big_quiet_step (first | (with_reducible exact nameZ_q _ _ HZ.out _ c0 _ _) | (with_reducible exact namesZ_q S S _ _ needs T _ AX2.out AX0.out SX.out SX.out _ c2 _ _) | (with_reducible exact namesZ_q S S _ _ has needs _ AX1.out AX2.out SX.out SX.out _ c3 _ _)) | quiet_step (first | (with_reducible exact nameZ_q _ _ HZ.out _ c0 _ _) | (with_reducible exact namesZ_q S S _ _ needs T _ AX2.out AX0.out SX.out SX.out _ c2 _ _) | (with_reducible exact namesZ_q S S _ _ has needs _ AX1.out AX2.out SX.out SX.out _ c3 _ _)))
        refine wpQuiet_nil ?_
        intro _ hw'
        obtain ⟨⟨dq, osq⟩, hw''⟩ := hw'
        subst hw''
        go_wp2
        go_ret
        rw [bok_no (fun h => by
          have hb := (h.row 0 (by simp only; omega)).bat
          simp only at hb
          rw [prev_zero Bs, ef] at hb
          simp [batB, asO, c0, c2, c3] at hb)]
        exact ⟨rfl, bX.trans ((below_regrown _ dq osq).mono bX.size)⟩
      have hbat : batB T (prevO Bs 0) (Bs[0]'hqb) = true := by
        rw [prev_zero Bs, ef]
        simp [batB, asO, c0, c2, c3]
      go_wp2
      refine wp_region_quiet_below (by kernel_rfl) (by kernel_rfl) ?_
      repeat (first | go_big_quiet_step (first | (with_reducible exact nameZ_q _ _ HZ.out _ c0 _ _) | (with_reducible exact namesZ_q S S _ _ needs T _ AX2.out AX0.out SX.out SX.out _ c2 _ _) | (with_reducible exact namesZ_q S S _ _ has needs _ AX1.out AX2.out SX.out SX.out _ c3 _ _)) | quiet_step (first | (with_reducible exact nameZ_q _ _ HZ.out _ c0 _ _) | (with_reducible exact namesZ_q S S _ _ needs T _ AX2.out AX0.out SX.out SX.out _ c2 _ _) | (with_reducible exact namesZ_q S S _ _ has needs _ AX1.out AX2.out SX.out SX.out _ c3 _ _)))
      refine wpQuiet_nil ?_
      intro _ hw'
      obtain ⟨⟨dq, osq⟩, hw''⟩ := hw'
      subst hw''
      have BY : Hid (Below X.heap.size X (grow (redrawn X dq) osq)) := below_regrown X dq osq
      obtain ⟨Y, hY⟩ : ∃ Y, Y = grow (redrawn X dq) osq := ⟨_, rfl⟩
      rw [← hY] at BY ⊢
      clear hY qy0 qy1 qn0 qn1 qn2
      have HBAT : Hid _ := hbat
      clear hbat
      obtain ⟨gx, hgx⟩ : ∃ g, g = wr.heap.size := ⟨_, rfl⟩
      rw [← hgx] at RX sX
      go_wp2
      rw [← hgx]
      clear hgx
      go_loopw [5] (fun i wr => ∃ j : Nat, j ≤ 0 ∧ i = .int .i64 j ∧ Hid (∀ k (hk : k < Bs.length), k < j → shareB has Bs[k].2.1 = false) ∧ Hid (Below X.heap.size X wr)) (fun i _ => 0 - (intOf i).toNat)
      case atStart => exact ⟨0, Nat.zero_le _, rfl, fun _ _ h => by omega, BY⟩
      case round =>
        obtain ⟨j, hj, rfl, hno, hbk⟩ := hrel
        have sk := hbk.out.size
        have BWk : Below W.heap.size W wr := BX.out.trans (hbk.out.mono BX.out.size)
        by_cases hjq : j < 0
        case neg =>
          obtain rfl : j = 0 := by omega
          go_wp2
          go_roundw
          case rel =>
            refine ⟨0 + 1, by omega, by go_num, fun i hi hiq => ?_, BWk⟩
            by_cases e : i = 0
            · subst e
              exact ⟨HBAT.out, fun k hk => by have := hno.out k (by omega) hk; simp only; rw [ef]; exact this⟩
            · exact hall.out i hi (by omega)
          case measure => simp [intOf]; omega
        exact absurd hjq (by omega)
    · obtain ⟨m, rfl⟩ : ∃ m, q = m + 1 := ⟨q - 1, by omega⟩
      obtain ⟨g, eg⟩ : ∃ g, (Bs[m]'(by omega)) = g := ⟨_, rfl⟩
      obtain ⟨_, hg0, _, _⟩ := NAM.out m (by omega)
      rw [eg] at hg0
      have qm0 := fun d os => cell_regrown ((bX.cell (p := ⟨bb, off + m * 3, none⟩) hbb).trans hg0) d os
      have gt0 : decide ((0 : Int) < ((m : Int) + 1)) = true := by rw [decide_eq_true_eq]; omega
      cases c0 : nameB nm
      · go_wp2
        refine wp_region_quiet_below (by kernel_rfl) (by kernel_rfl) ?_
        repeat (first | go_big_quiet_step (first | (with_reducible exact nameZ_q _ _ HZ.out _ c0 _ _)) | quiet_step (first | (with_reducible exact nameZ_q _ _ HZ.out _ c0 _ _)))
        refine wpQuiet_nil ?_
        intro _ hw'
        obtain ⟨⟨dq, osq⟩, hw''⟩ := hw'
        subst hw''
        go_wp2
        go_ret
        rw [bok_no (fun h => by
          have hb := (h.row (m + 1) (by simp only; omega)).bat
          simp only at hb
          rw [prev_succ Bs m (by omega), eg, ef] at hb
          simp [batB, asO, c0] at hb)]
        exact ⟨rfl, bX.trans ((below_regrown _ dq osq).mono bX.size)⟩
      cases c1 : ltB g.1 nm
      · have c1' : (Op.bytesLess g.1.toList nm.toList) = false := c1
        go_wp2
        refine wp_region_quiet_below (by kernel_rfl) (by kernel_rfl) ?_
        repeat (first | go_big_quiet_step (first | (with_reducible exact nameZ_q _ _ HZ.out _ c0 _ _)) | quiet_step (first | (with_reducible exact nameZ_q _ _ HZ.out _ c0 _ _)))
        refine wpQuiet_nil ?_
        intro _ hw'
        obtain ⟨⟨dq, osq⟩, hw''⟩ := hw'
        subst hw''
        go_wp2
        go_ret
        rw [bok_no (fun h => by
          have hb := (h.row (m + 1) (by simp only; omega)).bat
          simp only at hb
          rw [prev_succ Bs m (by omega), eg, ef] at hb
          simp [batB, asO, c0, c1] at hb)]
        exact ⟨rfl, bX.trans ((below_regrown _ dq osq).mono bX.size)⟩
      have c1' : (Op.bytesLess g.1.toList nm.toList) = true := c1
      cases c2 : subB T needs
      · go_wp2
        refine wp_region_quiet_below (by kernel_rfl) (by kernel_rfl) ?_
        repeat (first | go_big_quiet_step (first | (with_reducible exact nameZ_q _ _ HZ.out _ c0 _ _) | (with_reducible exact namesZ_q S S _ _ needs T _ AX2.out AX0.out SX.out SX.out _ c2 _ _)) | quiet_step (first | (with_reducible exact nameZ_q _ _ HZ.out _ c0 _ _) | (with_reducible exact namesZ_q S S _ _ needs T _ AX2.out AX0.out SX.out SX.out _ c2 _ _)))
        refine wpQuiet_nil ?_
        intro _ hw'
        obtain ⟨⟨dq, osq⟩, hw''⟩ := hw'
        subst hw''
        go_wp2
        go_ret
        rw [bok_no (fun h => by
          have hb := (h.row (m + 1) (by simp only; omega)).bat
          simp only at hb
          rw [prev_succ Bs m (by omega), eg, ef] at hb
          simp [batB, asO, c0, c1, c2] at hb)]
        exact ⟨rfl, bX.trans ((below_regrown _ dq osq).mono bX.size)⟩
      cases c3 : subB needs has
      · go_wp2
        refine wp_region_quiet_below (by kernel_rfl) (by kernel_rfl) ?_
        repeat (first | go_big_quiet_step (first | (with_reducible exact nameZ_q _ _ HZ.out _ c0 _ _) | (with_reducible exact namesZ_q S S _ _ needs T _ AX2.out AX0.out SX.out SX.out _ c2 _ _) | (with_reducible exact namesZ_q S S _ _ has needs _ AX1.out AX2.out SX.out SX.out _ c3 _ _)) | quiet_step (first | (with_reducible exact nameZ_q _ _ HZ.out _ c0 _ _) | (with_reducible exact namesZ_q S S _ _ needs T _ AX2.out AX0.out SX.out SX.out _ c2 _ _) | (with_reducible exact namesZ_q S S _ _ has needs _ AX1.out AX2.out SX.out SX.out _ c3 _ _)))
        refine wpQuiet_nil ?_
        intro _ hw'
        obtain ⟨⟨dq, osq⟩, hw''⟩ := hw'
        subst hw''
        go_wp2
        go_ret
        rw [bok_no (fun h => by
          have hb := (h.row (m + 1) (by simp only; omega)).bat
          simp only at hb
          rw [prev_succ Bs m (by omega), eg, ef] at hb
          simp [batB, asO, c0, c1, c2, c3] at hb)]
        exact ⟨rfl, bX.trans ((below_regrown _ dq osq).mono bX.size)⟩
      have hbat : batB T (prevO Bs (m + 1)) (Bs[m + 1]'hqb) = true := by
        rw [prev_succ Bs m (by omega), eg, ef]
        simp [batB, asO, c0, c1, c2, c3]
      go_wp2
      refine wp_region_quiet_below (by kernel_rfl) (by kernel_rfl) ?_
      repeat (first | go_big_quiet_step (first | (with_reducible exact nameZ_q _ _ HZ.out _ c0 _ _) | (with_reducible exact namesZ_q S S _ _ needs T _ AX2.out AX0.out SX.out SX.out _ c2 _ _) | (with_reducible exact namesZ_q S S _ _ has needs _ AX1.out AX2.out SX.out SX.out _ c3 _ _)) | quiet_step (first | (with_reducible exact nameZ_q _ _ HZ.out _ c0 _ _) | (with_reducible exact namesZ_q S S _ _ needs T _ AX2.out AX0.out SX.out SX.out _ c2 _ _) | (with_reducible exact namesZ_q S S _ _ has needs _ AX1.out AX2.out SX.out SX.out _ c3 _ _)))
      refine wpQuiet_nil ?_
      intro _ hw'
      obtain ⟨⟨dq, osq⟩, hw''⟩ := hw'
      subst hw''
      have BY : Hid (Below X.heap.size X (grow (redrawn X dq) osq)) := below_regrown X dq osq
      obtain ⟨Y, hY⟩ : ∃ Y, Y = grow (redrawn X dq) osq := ⟨_, rfl⟩
      rw [← hY] at BY ⊢
      clear hY qy0 qy1 qn0 qn1 qn2
      have HBAT : Hid _ := hbat
      clear hbat
      obtain ⟨gx, hgx⟩ : ∃ g, g = wr.heap.size := ⟨_, rfl⟩
      rw [← hgx] at RX sX
      go_wp2
      rw [← hgx]
      clear hgx
      go_loopw [5] (fun i wr => ∃ j : Nat, j ≤ m + 1 ∧ i = .int .i64 j ∧ Hid (∀ k (hk : k < Bs.length), k < j → shareB has Bs[k].2.1 = false) ∧ Hid (Below X.heap.size X wr)) (fun i _ => m + 1 - (intOf i).toNat)
      case atStart => exact ⟨0, Nat.zero_le _, rfl, fun _ _ h => by omega, BY⟩
      case round =>
        obtain ⟨j, hj, rfl, hno, hbk⟩ := hrel
        have sk := hbk.out.size
        have BWk : Below W.heap.size W wr := BX.out.trans (hbk.out.mono BX.out.size)
        by_cases hjq : j < m + 1
        case neg =>
          obtain rfl : j = m + 1 := by omega
          go_wp2
          go_roundw
          case rel =>
            refine ⟨m + 1 + 1, by omega, by go_num, fun i hi hiq => ?_, BWk⟩
            by_cases e : i = m + 1
            · subst e
              exact ⟨HBAT.out, fun k hk => by have := hno.out k (by omega) hk; simp only; rw [ef]; exact this⟩
            · exact hall.out i hi (by omega)
          case measure => simp [intOf]; omega
        obtain ⟨hv, _, h2, h3⟩ := NAM.out j (by omega)
        obtain ⟨o3, k3, t3, _⟩ := id h3
        rw [t3] at h2 h3
        obtain ⟨hasj, ehj⟩ : ∃ l, (Bs[j]'(by omega)).2.1 = l := ⟨_, rfl⟩
        rw [ehj] at h2 h3
        obtain ⟨n3, en3⟩ : ∃ n, hasj.length = n := ⟨_, rfl⟩
        rw [en3] at h2 h3
        clear en3 t3
        have bk := (BOX.out wr BWk).2
        have g1 := ((bk.cell (p := ⟨bb, off + j * 3 + 1, none⟩) hbb)).trans h2
        have qg1 := fun d os => cell_regrown g1 d os
        have qy1 := fun d os => cell_regrown (cell_row (BOX.out wr BWk).1 1 (.slice (some ⟨bb, off, none⟩) nb kb) rfl).1 d os
        have qn1 := fun d os => cell_regrown (cell_row ((hbk.out.block _ (by omega)).trans RX.out) 1 (.slice o1 n1 k1) rfl).1 d os
        have K1 : Hid (AtL S wr has (.slice o1 n1 k1)) := HL.out wr bk _ _ A1.out
        have K3 : Hid (AtL S wr hasj (.slice o3 n3 k3)) := HL.out wr bk _ _ h3
        have KS : Hid (∀ b, S b → b < wr.heap.size) := HS.out wr bk
        cases cs : shareB has hasj
        · go_wp2
          refine wp_region_quiet_below (by kernel_rfl) (by kernel_rfl) ?_
          repeat (first | go_big_quiet_step (with_reducible exact shareZ_q S _ _ has hasj _ K1.out K3.out KS.out _ cs _ _) | quiet_step (with_reducible exact shareZ_q S _ _ has hasj _ K1.out K3.out KS.out _ cs _ _))
          refine wpQuiet_nil ?_
          intro _ hw'
          obtain ⟨⟨dq, osq⟩, hw''⟩ := hw'
          subst hw''
          go_wp2
          go_roundw
          case rel => exact ⟨j + 1, by omega, by go_num, fun k hk hkj => by
            by_cases e : k = j
            · subst e; rw [ehj]; exact cs
            · exact hno.out k hk (by omega), hbk.out.trans ((below_regrown _ dq osq).mono sk)⟩
          case measure => simp [intOf]; omega
        · go_wp2
          refine wp_region_quiet_below (by kernel_rfl) (by kernel_rfl) ?_
          repeat (first | go_big_quiet_step (with_reducible exact shareZ_q S _ _ has hasj _ K1.out K3.out KS.out _ cs _ _) | quiet_step (with_reducible exact shareZ_q S _ _ has hasj _ K1.out K3.out KS.out _ cs _ _))
          refine wpQuiet_nil ?_
          intro _ hw'
          obtain ⟨⟨dq, osq⟩, hw''⟩ := hw'
          subst hw''
          go_wp2
          go_ret
          rw [bok_no (fun h => by
            have hb := (h.row (m + 1) (by simp only; omega)).sha j hjq
            simp only at hb
            rw [ef, ehj] at hb
            simp only at hb
            rw [cs] at hb; cases hb)]
          exact ⟨rfl, bk.trans ((below_regrown _ dq osq).mono bk.size)⟩
end Go.Proofs.YtobchllaopdchacGreat

namespace Go.Proofs.YtobchllaopdchacGreat
open Go.RowKit Go.Sort
theorem bat_at {S : Nat → Prop} {w : World} {Bs : List DShareBatch} {oa : Option Addr} {nb kb : Nat} (h : AtL S w Bs (.slice oa nb kb)) (i : Nat) (hi : i < Bs.length) :
    ∃ bb off o1 n1 k1 o2 n2 k2, oa = some ⟨bb, off, none⟩ ∧ S bb ∧ w.cell? ⟨bb, off + i * 3, none⟩ = some (.string Bs[i].1) ∧ w.cell? ⟨bb, off + i * 3 + 1, none⟩ = some (.slice o1 n1 k1) ∧ w.cell? ⟨bb, off + i * 3 + 2, none⟩ = some (.slice o2 n2 k2) ∧ AtL S w Bs[i].2.1 (.slice o1 n1 k1) ∧ AtL S w Bs[i].2.2 (.slice o2 n2 k2) ∧ Bs[i].1.size ≤ maxLen := by
  obtain ⟨oa', kb', e, _, hc⟩ := h
  cases e
  obtain ⟨bb, off, e, hS, cc, hcl, hat⟩ := hc i hi
  rw [width_DShareBatch] at hcl
  obtain ⟨⟨t0, z0⟩, a1, a2⟩ := at_DShareBatch.1 hat
  obtain ⟨o1, k1, t1, _⟩ := id a1
  obtain ⟨o2, k2, t2, _⟩ := id a2
  rw [t1] at a1
  rw [t2] at a2
  exact ⟨bb, off, o1, _, k1, o2, _, k2, e, hS, (by have hq := hcl 0 (by omega); first | exact hq | simpa using hq : w.cell? ⟨bb, off + i * 3, none⟩ = some (cc 0)).trans (by rw [t0]), (hcl 1 (by omega)).trans (by rw [t1]), (hcl 2 (by omega)).trans (by rw [t2]), a1, a2, z0⟩
def btN (Bs : List DShareBatch) (i : Nat) : DShareBatch := Bs[i]?.getD default
theorem btN_at {Bs : List DShareBatch} {i : Nat} (h : i < Bs.length) : btN Bs i = Bs[i] := by simp [btN, h]
def inWay (Bs : List DShareBatch) (a : Nat) (gone : List ByteArray) (i : Nat) : Bool := !(i == a) && !(hasB gone (btN Bs i).1) && shareB (btN Bs i).2.1 (btN Bs a).2.2
def canB (Bs : List DShareBatch) (a : Nat) (gone : List ByteArray) : Bool := !((List.range Bs.length).any (inWay Bs a gone))
theorem can_yes {Bs : List DShareBatch} {a : Nat} {gone : List ByteArray} (h : ∀ i, i < Bs.length → inWay Bs a gone i = false) : canB Bs a gone = true := by
  unfold canB
  rw [Bool.not_eq_true', List.any_eq_false]
  intro i hi
  rw [h i (List.mem_range.1 hi)]; simp
theorem can_no {Bs : List DShareBatch} {a i : Nat} {gone : List ByteArray} (hi : i < Bs.length) (h : inWay Bs a gone i = true) : canB Bs a gone = false := by
  unfold canB
  rw [Bool.not_eq_false', List.any_eq_true]
  exact ⟨i, List.mem_range.2 hi, h⟩
end Go.Proofs.YtobchllaopdchacGreat

namespace Go.Proofs.YtobchllaopdchacGreat
open Go.RowKit Go.Sort
def atZI (Bs : List DShareBatch) (x : ByteArray) : Int := idxI Bs (fun f => eqB f.1 x)
theorem at_lt {Bs : List DShareBatch} {x : ByteArray} (h : ¬ atZI Bs x < 0) : ∃ q : Nat, atZI Bs x = (q : Int) ∧ q < Bs.length := by
  unfold atZI idxI at h ⊢
  cases e : Bs.findIdx? (fun f => eqB f.1 x) with
  | none => rw [e] at h; simp at h
  | some i =>
    refine ⟨i, rfl, ?_⟩
    obtain ⟨h1, _⟩ := List.findIdx?_eq_some_iff_getElem.1 e
    exact h1
set_option maxRecDepth 100000 in
set_option maxHeartbeats 8000000 in
theorem atZ_any (S : Nat → Prop) (T : List ByteArray) (Bs : List DShareBatch) (o0 oa : Option Addr) (n0 k0 nb kb : Nat) (x : ByteArray) (w : World) (h0 : AtL S w T (.slice o0 n0 k0)) (h1 : AtL S w Bs (.slice oa nb kb)) (hS : ∀ b, S b → b < w.heap.size) :
    Calls Tryz.prog 58 #[.agg #[.slice o0 n0 k0, .slice oa nb kb], .string x] w fun e w' => e = .returned (.int .i64 (atZI Bs x)) ∧ Below w.heap.size w w' := by
  have enb : Bs.length = nb := by obtain ⟨_, _, e, _⟩ := h1; cases e; rfl
  have hmx : nb ≤ 9223372036854775807 := by obtain ⟨_, _, e, hf, _⟩ := id h1; cases e; have := hf.1; unfold maxLen at this; omega
  have ENB : Hid (Bs.length ≤ nb ∧ nb ≤ Bs.length) := ⟨by omega, by omega⟩
  have H0 : Hid _ := h0.ups hS
  have H1 : Hid _ := h1.ups hS
  have HS : Hid _ := lt_up hS
  obtain ⟨W, EW, BW, RW, sW⟩ := box_new w #[.slice o0 n0 k0, .slice oa nb kb] 34
  clear enb
  have BOX : Hid (∀ u, Below W.heap.size W u → u.heap[w.heap.size]? = some (.cells #[.slice o0 n0 k0, .slice oa nb kb] 34 (0, 0)) ∧ Below w.heap.size w u) := fun u hu => ⟨(hu.block _ (by omega)).trans RW.out, BW.out.trans (hu.mono (by omega))⟩
  go_enter Tryz.func58, Tryz.ntmps58
  go_wp2_with fail
  rw [← EW.out]
  go_loopw [5] (fun i wr => ∃ q : Nat, q ≤ nb ∧ i = .int .i64 q ∧ Hid (∀ j (hj : j < Bs.length), j < q → (fun f : DShareBatch => eqB f.1 x) Bs[j] = false) ∧ Hid (Below W.heap.size W wr)) (fun i _ => nb - (intOf i).toNat)
  case atStart => exact ⟨0, Nat.zero_le _, rfl, fun _ _ h => by omega, Below.refl _ _⟩
  case round =>
    obtain ⟨q, hq, rfl, hall, hbel⟩ := hrel
    have HB := hbel.out
    have bwr := (BOX.out wr HB).2
    have hsz := HB.size
    have y0 := (cell_row (BOX.out wr HB).1 0 (.slice o0 n0 k0) rfl).1
    have y1 := (cell_row (BOX.out wr HB).1 1 (.slice oa nb kb) rfl).1
    by_cases hlt : q < nb
    case neg =>
      go_wp2_with fail
      go_ret
      rw [show atZI Bs x = -1 from idx_no (fun i hi => hall.out i hi (by have := ENB.out; omega))]
      exact ⟨rfl, bwr⟩
    have hqb : q < Bs.length := by have := ENB.out; omega
    obtain ⟨bb, off, o1, n1, k1, o2, n2, k2, rfl, hbS, e0, _, _, _, _, _⟩ := bat_at (H1.out wr bwr) q hqb
    obtain ⟨f, ef⟩ : ∃ f, Bs[q] = f := ⟨_, rfl⟩
    rw [ef] at e0
    cases c0 : (f.1.toList == x.toList)
    · have hp : (fun f : DShareBatch => eqB f.1 x) Bs[q] = false := by rw [ef]; simp [eqB, c0]
      go_wp2_with fail
      go_roundw
      case rel => exact ⟨q + 1, by omega, by go_num, fun j hj hjq => by
        by_cases e : j = q
        · subst e; exact hp
        · exact hall.out j hj (by omega), HB⟩
      case measure => simp [intOf]; omega
    · have hp : (fun f : DShareBatch => eqB f.1 x) Bs[q] = true := by rw [ef]; simp [eqB, c0]
      go_wp2_with fail
      go_ret
      rw [show atZI Bs x = (q : Int) from idx_yes hqb hp (fun j hj hjq => hall.out j hj hjq)]
      exact ⟨rfl, bwr⟩
end Go.Proofs.YtobchllaopdchacGreat
