/-
  Several texts in one.
-/
import Derived.Test.YtobchllaopdchaaXbs
import Derived.Test.YtobchllaopdchaaM21
import Derived.Test.YtobchllaopdchaaM8
namespace Go.Proofs.Ytobchllaopdchaa
open Go.RowKit
set_option maxRecDepth 100000 in
set_option maxHeartbeats 4000000 in
theorem slotsI_any (S : Nat → Prop) (r : List DRecPhase) (v : Value) (x : ByteArray) (w : World) (h : AtL S w r v) (hS : ∀ b, S b → b < w.heap.size) (ht : totL r ≤ 1048576) (_ : x.size ≤ 1048576) :
    Calls Try.prog 55 #[v, .string x] w fun e w' => ∃ q, e = .returned q ∧ OnL (fun b => w.heap.size ≤ b ∧ b < w'.heap.size) w' (slL r x) q ∧ Below w.heap.size w w' := by
  obtain ⟨oa, cap, ev, _⟩ := id h
  obtain ⟨n, en⟩ : ∃ n, r.length = n := ⟨_, rfl⟩
  rw [en] at ev
  subst ev
  have HL : Hid (r.length = n) := en
  have H : Hid _ := h.ups hS
  have HS : Hid _ := lt_up hS
  have B0 : Hid (Below w.heap.size w w) := Below.refl _ _
  clear h hS en
  cases hr : recB r
  · have hsl : slL r x = [] := by unfold slL; rw [hr]; rfl
    rw [hsl]
    go_enter Try.func55, Try.ntmps55
    go_wp2_with fail
    refine (okI_any S r _ _ (H.out _ B0.out) (HS.out _ B0.out) ht).mono ?_; rintro e w1 ⟨rfl, hb1⟩
    have B1 : Hid (Below w.heap.size w w1) := hb1
    clear hb1
    rw [hr]
    go_wp2_with fail
    go_ret
    exact ⟨_, rfl, onS (Row.nil w1 w.heap.size 9 1 eS) (fun g hg => by cases hg) (fun y hy => by cases hy), B1.out⟩
  · have HR : Hid (RecP r) := rec_iff.1 hr
    have hsl : slL r x = sltF 12 r x := by unfold slL; rw [hr]; rfl
    rw [hsl]
    go_enter Try.func55, Try.ntmps55
    go_wp2_with fail
    refine (okI_any S r _ _ (H.out _ B0.out) (HS.out _ B0.out) ht).mono ?_; rintro e w1 ⟨rfl, hb1⟩
    have B1 : Hid (Below w.heap.size w w1) := hb1
    clear hb1
    rw [hr]
    go_wp2_with fail
    refine (tabS_any S r oa n cap _ HR.out (H.out _ B1.out) HL.out (HS.out _ B1.out)).mono ?_; rintro e w2 ⟨g, rfl, ⟨hg, hc⟩, hb2⟩
    have B2 : Hid (Below w.heap.size w w2) := B1.out.trans (hb2.mono B1.out.size)
    have HC : Hid _ := hc
    have s1 := B1.out.size
    clear hb2 hc
    have TOLD : ∃ o m k, (∀ j : Nat, atI r x = (j : Int) → w2.cell? ⟨g, j, none⟩ = some (.slice o m k)) ∧ (atI r x = -1 → Value.slice o m k = .slice none 0 0) ∧ Row w2 w1.heap.size 9 1 eS (.slice o m k) (sltF 12 r x) := by
      rcases at_cases r x with e | ⟨k', hk', e, _⟩
      · refine ⟨none, 0, 0, fun j hj => by omega, fun _ => rfl, ?_⟩
        rw [slt_none e 12]; exact Row.nil _ _ _ _ _
      · obtain ⟨v, hv, hrow⟩ := HC.out k' (by have := HL.out; omega)
        rw [phN_at hk', ← slt_at HR.out hk' e 11] at hrow
        obtain ⟨o, k, hf⟩ := Row.form hrow
        subst hf
        refine ⟨o, _, k, fun j hj => ?_, fun h => by omega, hrow⟩
        obtain rfl : j = k' := by omega
        exact hv
    obtain ⟨o, m, k, ta, tb, tr⟩ := TOLD
    have TR : Hid (Row w2 w1.heap.size 9 1 eS (.slice o m k) (sltF 12 r x)) := tr
    have C : Hid _ := ofS_any S r oa n cap x g o m k w2 (H.out _ B2.out) HL.out (HS.out _ B2.out) hg ta tb
    clear ta tb tr
    go_wp2_with fail
    refine Calls.mono C.out ?_
    rintro e w3 ⟨rfl, hb3⟩
    have B3 : Hid (Below w.heap.size w w3) := B2.out.trans (hb3.mono B2.out.size)
    have R3 : Hid (Row w3 w.heap.size 9 1 eS (.slice o m k) (sltF 12 r x)) := (Row.below TR.out hb3).low (by omega)
    clear hb3
    go_wp2_with fail
    go_ret
    exact ⟨_, rfl, onS R3.out (fun q hq => World.ownsRow.lt R3.out q hq) (fun y hy => Nat.le_trans (slt_names HR.out 12 x y hy) (by decide)), B3.out⟩
end Go.Proofs.Ytobchllaopdchaa

namespace Go.Proofs.Ytobchllaopdchaa
open Go.RowKit Go.Sort
theorem tot_el {α : Type} [Lay α] {l : List α} {m : Nat} (h : totL l ≤ m) {x : α} (hx : x ∈ l) : Lay.tot x ≤ m := by
  obtain ⟨i, hi, rfl⟩ := List.getElem_of_mem hx
  exact Nat.le_trans (totL_el l i hi) h
theorem thing_small {sl : List DRunSlot} (h : totL sl ≤ 1048576) : ∀ s ∈ sl, s.2.size ≤ 1048576 := fun s hs => by
  have := tot_el h hs
  rw [tot_DRunSlot] at this
  omega
set_option maxRecDepth 100000 in
set_option maxHeartbeats 8000000 in
theorem slotsOkP_any (S : Nat → Prop) (nm at_ : ByteArray) (r : List DRecPhase) (sl : List DRunSlot) (si st : Int) (o1 o2 : Option Addr) (n1 k1 n2 k2 : Nat) (w : World) (hr : AtL S w r (.slice o1 n1 k1)) (h : AtL S w sl (.slice o2 n2 k2)) (hS : ∀ b, S b → b < w.heap.size) (tr : totL r ≤ 1048576) (ts : totL sl ≤ 1048576) (hR : RecP r) :
    Calls Try.prog 43 #[.agg #[.string nm, .slice o1 n1 k1, .slice o2 n2 k2, .string at_, .int .i64 si, .int .i64 st]] w fun e w' => e = .returned (.bool (slB r sl)) ∧ Below w.heap.size w w' := by
  have en1 : r.length = n1 := by obtain ⟨_, _, e, _⟩ := hr; cases e; rfl
  have hr0 : 0 < r.length := by have := hR.1; omega
  have hn1 : 0 < n1 := by omega
  have HF := fst_at hr0
  obtain ⟨bb, off, rfl, hbb, e0⟩ : ∃ b off, o1 = some ⟨b, off, none⟩ ∧ b < w.heap.size ∧ w.cell? ⟨b, off, none⟩ = some (.string (fstN r)) := by
    obtain ⟨oa, cap, ev, _, hc⟩ := id hr
    obtain ⟨b, off, eo, hbS, cc, hcell, hat⟩ := hc 0 hr0
    rw [width_DRecPhase] at hcell
    rw [at_DRecPhase, HF] at hat
    cases ev
    exact ⟨b, off, eo, hS b hbS, (hcell 0 (by omega) : w.cell? ⟨b, off, none⟩ = some (cc 0)).trans (by rw [hat.1.1])⟩
  have hfs : (fstN r).size ≤ 1048576 := by
    have := tot_el tr (List.getElem_mem hr0)
    rw [tot_DRecPhase, HF] at this
    omega
  obtain ⟨W, EW, BW, RW, sW⟩ := box_new w #[.string nm, .slice (some ⟨bb, off, none⟩) n1 k1, .slice o2 n2 k2, .string at_, .int .i64 si, .int .i64 st] 32
  have BOX : Hid (∀ u, Below W.heap.size W u → u.heap[w.heap.size]? = some (.cells #[.string nm, .slice (some ⟨bb, off, none⟩) n1 k1, .slice o2 n2 k2, .string at_, .int .i64 si, .int .i64 st] 32 (0, 0)) ∧ Below w.heap.size w u) := fun u hu => ⟨(hu.block _ (by omega)).trans RW.out, BW.out.trans (hu.mono (by omega))⟩
  have HR : Hid _ := hr.ups hS
  have HA : Hid _ := h.ups hS
  have HS : Hid _ := lt_up hS
  have h0 := fun u (hu : Below W.heap.size W u) => cell_row (BOX.out u hu).1
  have Y : Hid (∀ u, Below W.heap.size W u → u.cell? ⟨w.heap.size, 0, none⟩ = some (.string nm) ∧ u.cell? ⟨w.heap.size, 1, none⟩ = some (.slice (some ⟨bb, off, none⟩) n1 k1) ∧ u.cell? ⟨w.heap.size, 2, none⟩ = some (.slice o2 n2 k2) ∧ u.cell? ⟨w.heap.size, 3, none⟩ = some (.string at_) ∧ u.cell? ⟨w.heap.size, 4, none⟩ = some (.int .i64 si) ∧ u.cell? ⟨w.heap.size, 5, none⟩ = some (.int .i64 st)) := fun u hu =>
    ⟨(h0 u hu 0 _ rfl).1, (h0 u hu 1 _ rfl).1, (h0 u hu 2 _ rfl).1, (h0 u hu 3 _ rfl).1, (h0 u hu 4 _ rfl).1, (h0 u hu 5 _ rfl).1⟩
  clear h0
  obtain ⟨L, hL⟩ : ∃ L, L = sltF 12 r (fstN r) := ⟨_, rfl⟩
  have hsl : slL r (fstN r) = L := by rw [hL]; unfold slL; rw [rec_yes hR]; rfl
  have hll : L.length ≤ 8192 := by rw [hL]; exact slt_small r (by omega) _
  have ASC : Hid (AscL L) := by rw [hL]; exact slt_asc r 12 _
  have TWO : Hid (slB r sl = true ↔ EqP L sl ∧ (thL sl L).length = L.length) := by rw [hL]; exact slB_two r sl
  have CS : Hid (∀ u, Below w.heap.size w u → Calls Try.prog 55 #[.slice (some ⟨bb, off, none⟩) n1 k1, .string (fstN r)] u fun e w' => ∃ q, e = .returned q ∧ OnL (fun b => u.heap.size ≤ b ∧ b < w'.heap.size) w' L q ∧ Below u.heap.size u w') := fun u hu => by
    rw [← hsl]; exact slotsI_any S r _ _ u (HR.out u hu) (HS.out u hu) tr hfs
  have TS : Hid (totL sl ≤ 1048576) := ts
  obtain ⟨R, hRR⟩ : ∃ R, R = slB r sl := ⟨_, rfl⟩
  rw [← hRR] at TWO ⊢
  clear hRR hL hsl h hr HF en1 hr0 hR tr ts hfs hS
  have e1 := (BW.out.cell (p := ⟨bb, off, none⟩) hbb).trans e0
  obtain ⟨y0, y1, y2, y3, y4, y5⟩ := Y.out W (Below.refl _ _)
  have q1 := fun d os => cell_regrown y1 d os
  have qe := fun d os => cell_regrown e1 d os
  have HDR : Hid (Below W.heap.size W W.drew) := (Below.refl _ _).drew
  clear y0 y1 y2 y3 y4 y5 e0 e1
  go_enter Try.func43, Try.ntmps43
  go_upto_region 1 with fail
  rw [← EW.out]
  refine wp_region_mix 7 [0, 1, 2, 3, 4, 5, 6] (by kernel_rfl) (by kernel_rfl) ?_
  simp only [List.filterMap_cons, List.filterMap_nil, List.getElem?_cons_succ, List.getElem?_cons_zero]
  repeat (first | go_big_quiet_step (fail) | quiet_step (fail))
  refine wpQuiet_nil ?_
  clear q1 qe
  have bdr : Hid (Below w.heap.size w W.drew) := BW.out.trans (HDR.out.mono BW.out.size)
  refine ⟨by kernel_rfl, ?_⟩
  simp only [List.drop_succ_cons, List.drop_zero]
  go_wp2_with fail
  refine (CS.out W.drew bdr.out).mono ?_; rintro e w1 ⟨q, rfl, hq, hb1⟩
  have B1 : Hid (Below W.heap.size W w1) := HDR.out.trans (hb1.mono HDR.out.size)
  have AL : Hid (AtL (fun b => w.heap.size ≤ b ∧ b < w1.heap.size) w1 L q) := hq.at_.up (fun b hb => ⟨Nat.le_trans bdr.out.size hb.1, hb.2⟩)
  obtain ⟨ol, cl, eq, _⟩ := id AL.out
  obtain ⟨nl, enl⟩ : ∃ n, L.length = n := ⟨_, rfl⟩
  have ENL : Hid (L.length ≤ nl ∧ nl ≤ L.length) := ⟨by omega, by omega⟩
  rw [enl] at eq hll
  subst eq
  clear hq hb1 enl
  have BW1 : Hid (Below w.heap.size w w1) := (BOX.out w1 B1.out).2
  obtain ⟨y0, y1, y2, y3, y4, y5⟩ := Y.out w1 B1.out
  go_wp2_with fail
  refine (eqf_any S _ sl L _ _ w1 (HA.out _ BW1.out) AL.out (HS.out _ BW1.out) (fun b hb => hb.2)).mono ?_; rintro e w2 ⟨rfl, hb2⟩
  have B2 : Hid (Below W.heap.size W w2) := B1.out.trans (hb2.mono B1.out.size)
  have C2 : Hid (Below w1.heap.size w1 w2) := hb2
  clear hb2 y0 y1 y2 y3 y4 y5
  have BW2 : Hid (Below w.heap.size w w2) := (BOX.out w2 B2.out).2
  obtain ⟨y0, y1, y2, y3, y4, y5⟩ := Y.out w2 B2.out
  cases c : eqPB L sl
  · have er : R = false := by
      cases hR : R with
      | false => rfl
      | true => have := (TWO.out.1 hR).1; rw [eqp_yes this] at c; cases c
    clear y0 y1 y2 y3 y4 y5
    go_wp2_with fail
    go_ret
    rw [er]
    exact ⟨rfl, BW2.out⟩
  have HE := eqp_iff.1 c
  have HD : Hid ((sl.map (·.1)).Nodup) := HE.dist ASC.out
  have TW : Hid (R = decide ((thL sl L).length = L.length)) := by
    show _ = _
    by_cases hl : (thL sl L).length = L.length
    · rw [decide_eq_true hl]; exact TWO.out.2 ⟨HE, hl⟩
    · rw [decide_eq_false hl]
      cases hR : R with
      | false => rfl
      | true => exact absurd (TWO.out.1 hR).2 hl
  clear HE
  go_wp2_with fail
  refine (slotThings_any S sl nm at_ _ _ si st w2 (HA.out _ BW2.out) (HS.out _ BW2.out) HD.out ⟨_, _, _, rfl⟩).mono ?_; rintro e w3 ⟨m, rfl, hm, hM, hb3⟩
  have MM : Hid (Mr w3 m (thO sl)) := hM
  have C3 : Hid (Below w1.heap.size w1 w3) := C2.out.trans (hb3.mono C2.out.size)
  have BW3 : Hid (Below w.heap.size w w3) := BW2.out.trans (hb3.mono BW2.out.size)
  clear hM hb3 hm y0 y1 y2 y3 y4 y5
  have AL3 : Hid (AtL (fun b => w.heap.size ≤ b ∧ b < w1.heap.size) w3 L (.slice ol nl cl)) := AL.out.same (Same.of_below C3.out (fun b hb => hb.2))
  have s3 := C3.out.size
  go_wp2_with fail
  refine (things_any _ sl L _ m w3 AL3.out (fun b hb => by omega) MM.out (by have := ENL.out; omega) (thing_small TS.out)).mono ?_; rintro e w4 ⟨q, rfl, hrow, hb4⟩
  obtain ⟨o5, c5, hf⟩ := Row.form hrow
  have BW4 : Hid (Below w.heap.size w w4) := BW3.out.trans (hb4.mono BW3.out.size)
  obtain ⟨nt, ent⟩ : ∃ n, (thL sl L).length = n := ⟨_, rfl⟩
  rw [show (bothL [] (L.map (thT sl))).length = nt from ent] at hf
  have hnt : nt ≤ nl := by have := thL_len sl L; have := ENL.out; omega
  have TF : Hid (R = decide (nt = nl)) := by rw [TW.out, ent]; show decide _ = decide _; congr 1; have := ENL.out; apply propext; omega
  subst hf
  clear hrow hb4 ent
  by_cases hl : nt = nl
  · have er : R = true := by rw [TF.out, decide_eq_true hl]
    subst hl
    go_wp2_with fail
    go_ret
    rw [er]
    exact ⟨rfl, BW4.out⟩
  · have er : R = false := by rw [TF.out, decide_eq_false hl]
    have hb : ((nt : Int) == (nl : Int)) = false := by rw [beq_eq_false_iff_ne]; omega
    go_wp2_with fail
    go_ret
    rw [er]
    exact ⟨rfl, BW4.out⟩
theorem th_names {sl : List DRunSlot} (h : totL sl ≤ 1048576) {l : List ByteArray} {y : ByteArray} (hy : y ∈ thL sl l) : y.size ≤ maxLen := by
  rcases both_mem _ _ _ hy with h1 | h1
  · cases h1
  · obtain ⟨z, _, rfl⟩ := List.mem_map.1 h1
    exact Nat.le_trans (thT_size (thing_small h) z) (by decide)
end Go.Proofs.Ytobchllaopdchaa
