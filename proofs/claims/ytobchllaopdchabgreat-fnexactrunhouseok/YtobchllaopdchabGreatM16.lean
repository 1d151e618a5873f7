/-
  Several texts in one.
-/
import Derived.Test.YtobchllaopdchabGreatM10
import Derived.Test.YtobchllaopdchabGreatM15
import Derived.Test.YtobchllaopdchabGreatM3
import Derived.Test.YtobchllaopdchabGreatM7
import Derived.Test.YtobchllaopdchabGreatM14
import Derived.Test.YtobchllaopdchabGreatM1
import Derived.Test.YtobchllaopdchabGreatM9
namespace Go.Proofs.YtobchllaopdchabGreat
open Go.RowKit Go.Sort
theorem tot_el {α : Type} [Lay α] {l : List α} {m : Nat} (h : totL l ≤ m) {x : α} (hx : x ∈ l) : Lay.tot x ≤ m := by
  obtain ⟨i, hi, rfl⟩ := List.getElem_of_mem hx
  exact Nat.le_trans (totL_el l i hi) h
theorem thing_small {sl : List DRunSlot} (h : totL sl ≤ 1048576) : ∀ s ∈ sl, s.2.size ≤ 1048576 := fun s hs => by
  have := tot_el h hs
  rw [tot_DRunSlot] at this
  omega
set_option maxRecDepth 100000 in
set_option maxHeartbeats 8000000 in
theorem slotsOkP_any (S : Nat → Prop) (nm at_ : ByteArray) (r : List DRecPhase) (sl : List DRunSlot) (si st : Int) (o1 o2 : Option Addr) (n1 k1 n2 k2 : Nat) (w : World) (hr : AtL S w r (.slice o1 n1 k1)) (h : AtL S w sl (.slice o2 n2 k2)) (hS : ∀ b, S b → b < w.heap.size) (tr : totL r ≤ 1048576) (ts : totL sl ≤ 1048576) (hR : RecP r) :
    Calls Tryz.prog 91 #[.agg #[.string nm, .slice o1 n1 k1, .slice o2 n2 k2, .string at_, .int .i64 si, .int .i64 st]] w fun e w' => e = .returned (.bool (slB r sl)) ∧ Below w.heap.size w w' := by
  have en1 : r.length = n1 := by obtain ⟨_, _, e, _⟩ := hr; cases e; rfl
  have hr0 : 0 < r.length := by have := hR.1; omega
  have hn1 : 0 < n1 := by omega
  have HF := fst_at hr0
  obtain ⟨bb, off, rfl, hbb, e0⟩ : ∃ b off, o1 = some ⟨b, off, none⟩ ∧ b < w.heap.size ∧ w.cell? ⟨b, off, none⟩ = some (.string (fstN r)) := by
    obtain ⟨oa, cap, ev, _, hc⟩ := id hr
    obtain ⟨b, off, eo, hbS, cc, hcell, hat⟩ := hc 0 hr0
    rw [width_DRecPhase] at hcell
    rw [at_DRecPhase, HF] at hat
    cases ev
    exact ⟨b, off, eo, hS b hbS, (by have hq := hcell 0 (by omega); first | exact hq | simpa using hq : w.cell? ⟨b, off, none⟩ = some (cc 0)).trans (by rw [hat.1.1])⟩
  have hfs : (fstN r).size ≤ 1048576 := by
    have := tot_el tr (List.getElem_mem hr0)
    rw [tot_DRecPhase, HF] at this
    omega
  obtain ⟨W, EW, BW, RW, sW⟩ := box_new w #[.string nm, .slice (some ⟨bb, off, none⟩) n1 k1, .slice o2 n2 k2, .string at_, .int .i64 si, .int .i64 st] 50
  have BOX : Hid (∀ u, Below W.heap.size W u → u.heap[w.heap.size]? = some (.cells #[.string nm, .slice (some ⟨bb, off, none⟩) n1 k1, .slice o2 n2 k2, .string at_, .int .i64 si, .int .i64 st] 50 (0, 0)) ∧ Below w.heap.size w u) := fun u hu => ⟨(hu.block _ (by omega)).trans RW.out, BW.out.trans (hu.mono (by omega))⟩
  have HR : Hid _ := hr.ups hS
  have HA : Hid _ := h.ups hS
  have HS : Hid _ := lt_up hS
  have h0 := fun u (hu : Below W.heap.size W u) => cell_row (BOX.out u hu).1
  have Y : Hid (∀ u, Below W.heap.size W u → u.cell? ⟨w.heap.size, 0, none⟩ = some (.string nm) ∧ u.cell? ⟨w.heap.size, 1, none⟩ = some (.slice (some ⟨bb, off, none⟩) n1 k1) ∧ u.cell? ⟨w.heap.size, 2, none⟩ = some (.slice o2 n2 k2) ∧ u.cell? ⟨w.heap.size, 3, none⟩ = some (.string at_) ∧ u.cell? ⟨w.heap.size, 4, none⟩ = some (.int .i64 si) ∧ u.cell? ⟨w.heap.size, 5, none⟩ = some (.int .i64 st)) := fun u hu =>
    ⟨(h0 u hu 0 _ rfl).1, (h0 u hu 1 _ rfl).1, (h0 u hu 2 _ rfl).1, (h0 u hu 3 _ rfl).1, (h0 u hu 4 _ rfl).1, (h0 u hu 5 _ rfl).1⟩
  clear h0
  obtain ⟨L, hL⟩ : ∃ L, L = sltF 12 r (fstN r) := ⟨_, rfl⟩
  have hsl : slL r (fstN r) = L := by rw [hL]; unfold slL; rw [rec_yes hR]; rfl
  have hll : L.length ≤ 8192 := by rw [hL]; exact slt_small r (by omega) _
  have ASC : Hid (AscL L) := by rw [hL]; exact slt_asc r 12 _
  have TWO : Hid (slB r sl = true ↔ EqP L sl ∧ (thL sl L).length = L.length) := by rw [hL]; exact slB_two r sl
  have CS : Hid (∀ u, Below w.heap.size w u → Calls Tryz.prog 128 #[.slice (some ⟨bb, off, none⟩) n1 k1, .string (fstN r)] u fun e w' => ∃ q, e = .returned q ∧ OnL (fun b => u.heap.size ≤ b ∧ b < w'.heap.size) w' L q ∧ Below u.heap.size u w') := fun u hu => by
    rw [← hsl]; exact slotsI_any S r _ _ u (HR.out u hu) (HS.out u hu) tr hfs
  have TS : Hid (totL sl ≤ 1048576) := ts
  obtain ⟨R, hRR⟩ : ∃ R, R = slB r sl := ⟨_, rfl⟩
  rw [← hRR] at TWO ⊢
  clear hRR hL hsl h hr HF en1 hr0 hR tr ts hfs hS
  have e1 := (BW.out.cell (p := ⟨bb, off, none⟩) hbb).trans e0
  obtain ⟨y0, y1, y2, y3, y4, y5⟩ := Y.out W (Below.refl _ _)
  have q1 := fun d os => cell_regrown y1 d os
  have qe := fun d os => cell_regrown e1 d os
  have HDR : Hid (Below W.heap.size W W.drew) := (Below.refl _ _).drew
  clear y0 y1 y2 y3 y4 y5 e0 e1
  go_enter Tryz.func91, Tryz.ntmps91
  go_upto_region 1 with fail
  rw [← EW.out]
  refine wp_region_mix 7 [0, 1, 2, 3, 4, 5, 6] (by kernel_rfl) (by kernel_rfl) ?_
  simp only [List.filterMap_cons, List.filterMap_nil, List.getElem?_cons_succ, List.getElem?_cons_zero]
  repeat (first | go_big_quiet_step (fail) | quiet_step (fail))
  refine wpQuiet_nil ?_
  clear q1 qe
  have bdr : Hid (Below w.heap.size w W.drew) := BW.out.trans (HDR.out.mono BW.out.size)
  refine ⟨by kernel_rfl, ?_⟩
  simp only [List.drop_succ_cons, List.drop_zero]
  go_wp2_with fail
  refine (CS.out W.drew bdr.out).mono ?_; rintro e w1 ⟨q, rfl, hq, hb1⟩
  have B1 : Hid (Below W.heap.size W w1) := HDR.out.trans (hb1.mono HDR.out.size)
  have AL : Hid (AtL (fun b => w.heap.size ≤ b ∧ b < w1.heap.size) w1 L q) := hq.at_.up (fun b hb => ⟨Nat.le_trans bdr.out.size hb.1, hb.2⟩)
  obtain ⟨ol, cl, eq, _⟩ := id AL.out
  obtain ⟨nl, enl⟩ : ∃ n, L.length = n := ⟨_, rfl⟩
  have ENL : Hid (L.length ≤ nl ∧ nl ≤ L.length) := ⟨by omega, by omega⟩
  rw [enl] at eq hll
  subst eq
  clear hq hb1 enl
  have BW1 : Hid (Below w.heap.size w w1) := (BOX.out w1 B1.out).2
  obtain ⟨y0, y1, y2, y3, y4, y5⟩ := Y.out w1 B1.out
  go_wp2_with fail
  refine (eqf_any S _ sl L _ _ w1 (HA.out _ BW1.out) AL.out (HS.out _ BW1.out) (fun b hb => hb.2)).mono ?_; rintro e w2 ⟨rfl, hb2⟩
  have B2 : Hid (Below W.heap.size W w2) := B1.out.trans (hb2.mono B1.out.size)
  have C2 : Hid (Below w1.heap.size w1 w2) := hb2
  clear hb2 y0 y1 y2 y3 y4 y5
  have BW2 : Hid (Below w.heap.size w w2) := (BOX.out w2 B2.out).2
  obtain ⟨y0, y1, y2, y3, y4, y5⟩ := Y.out w2 B2.out
  cases c : eqPB L sl
  · have er : R = false := by
      cases hR : R with
      | false => rfl
      | true => have := (TWO.out.1 hR).1; rw [eqp_yes this] at c; cases c
    clear y0 y1 y2 y3 y4 y5
    go_wp2_with fail
    go_ret
    rw [er]
    exact ⟨rfl, BW2.out⟩
  have HE := eqp_iff.1 c
  have HD : Hid ((sl.map (·.1)).Nodup) := HE.dist ASC.out
  have TW : Hid (R = decide ((thL sl L).length = L.length)) := by
    show _ = _
    by_cases hl : (thL sl L).length = L.length
    · rw [decide_eq_true hl]; exact TWO.out.2 ⟨HE, hl⟩
    · rw [decide_eq_false hl]
      cases hR : R with
      | false => rfl
      | true => exact absurd (TWO.out.1 hR).2 hl
  clear HE
  go_wp2_with fail
  refine (slotThings_any S sl nm at_ _ _ si st w2 (HA.out _ BW2.out) (HS.out _ BW2.out) HD.out ⟨_, _, _, rfl⟩).mono ?_; rintro e w3 ⟨m, rfl, hm, hM, hb3⟩
  have MM : Hid (Mr w3 m (thO sl)) := hM
  have C3 : Hid (Below w1.heap.size w1 w3) := C2.out.trans (hb3.mono C2.out.size)
  have BW3 : Hid (Below w.heap.size w w3) := BW2.out.trans (hb3.mono BW2.out.size)
  clear hM hb3 hm y0 y1 y2 y3 y4 y5
  have AL3 : Hid (AtL (fun b => w.heap.size ≤ b ∧ b < w1.heap.size) w3 L (.slice ol nl cl)) := AL.out.same (Same.of_below C3.out (fun b hb => hb.2))
  have s3 := C3.out.size
  go_wp2_with fail
  refine (things_any _ sl L _ m w3 AL3.out (fun b hb => by omega) MM.out (by have := ENL.out; omega) (thing_small TS.out)).mono ?_; rintro e w4 ⟨q, rfl, hrow, hb4⟩
  obtain ⟨o5, c5, hf⟩ := Row.form hrow
  have BW4 : Hid (Below w.heap.size w w4) := BW3.out.trans (hb4.mono BW3.out.size)
  obtain ⟨nt, ent⟩ : ∃ n, (thL sl L).length = n := ⟨_, rfl⟩
  rw [show (bothL [] (L.map (thT sl))).length = nt from ent] at hf
  have hnt : nt ≤ nl := by have := thL_len sl L; have := ENL.out; omega
  have TF : Hid (R = decide (nt = nl)) := by rw [TW.out, ent]; show decide _ = decide _; congr 1; have := ENL.out; apply propext; omega
  subst hf
  clear hrow hb4 ent
  by_cases hl : nt = nl
  · have er : R = true := by rw [TF.out, decide_eq_true hl]
    subst hl
    go_wp2_with fail
    go_ret
    rw [er]
    exact ⟨rfl, BW4.out⟩
  · have er : R = false := by rw [TF.out, decide_eq_false hl]
    have hb : ((nt : Int) == (nl : Int)) = false := by rw [beq_eq_false_iff_ne]; omega
    go_wp2_with fail
    go_ret
    rw [er]
    exact ⟨rfl, BW4.out⟩
end Go.Proofs.YtobchllaopdchabGreat

namespace Go.Proofs.YtobchllaopdchabGreat
open Go.RowKit Go.Sort
theorem pace_in {si v : Int} (h : ¬ si = -1) : (decide (0 ≤ si) && decide (si < v)) = inB si (-1) (v - 1) := by
  have e : inB si (-1) (v - 1) = (decide (-1 ≤ si) && decide (si ≤ v - 1)) := by simp [inB]
  rw [e]
  by_cases h1 : 0 ≤ si
  · rw [decide_eq_true h1, decide_eq_true (by omega : -1 ≤ si)]
    simp only [Bool.true_and]
    congr 1
    exact propext ⟨fun _ => by omega, fun _ => by omega⟩
  · rw [decide_eq_false h1, decide_eq_false (by omega : ¬ -1 ≤ si)]
    rfl
theorem pace_q (nm at_ : ByteArray) (si st : Int) (o1 o2 : Option Addr) (n1 k1 n2 k2 : Nat) (wr : World) (d : Nat) (os : Array Obj) : Calls Tryz.prog 93 #[.agg #[.string nm, .slice o1 n1 k1, .slice o2 n2 k2, .string at_, .int .i64 si, .int .i64 st]] (grow (redrawn wr d) os) fun e w'' => e = .returned (paV si) ∧ ∃ p : Regrown, w'' = grow (redrawn wr p.d) p.os :=
  Calls.regrown_of (pace_any nm at_ si st o1 o2 n1 k1 n2 k2 _)
theorem fitsW_q (wi : Int) (wr : World) (d : Nat) (os : Array Obj) : Calls Tryz.prog 222 #[.agg #[], .int .i64 wi] (grow (redrawn wr d) os) fun e w'' => e = .returned (.bool true) ∧ ∃ p : Regrown, w'' = grow (redrawn wr p.d) p.os :=
  Calls.regrown_of (fitsW_any wi _)
theorem fitsG_q (si wi : Int) (I : Bool) (hI : (decide (0 ≤ si) && decide (si < wi)) = I) (wr : World) (d : Nat) (os : Array Obj) : Calls Tryz.prog 221 #[.agg #[.int .i64 si], .int .i64 wi] (grow (redrawn wr d) os) fun e w'' => e = .returned (.bool I) ∧ ∃ p : Regrown, w'' = grow (redrawn wr p.d) p.os :=
  Calls.regrown_of ((fitsG_any si wi _).mono fun _ _ ⟨he, hw⟩ => ⟨by subst hI; exact he, hw⟩)
set_option maxRecDepth 100000 in
set_option maxHeartbeats 8000000 in
theorem runI_any (S : Nat → Prop) (nm : ByteArray) (r : List DRecPhase) (sl : List DRunSlot) (at_ : ByteArray) (si st : Int) (o1 o2 : Option Addr) (n1 k1 n2 k2 : Nat) (w : World) (hn : nm.size ≤ maxLen) (hr : AtL S w r (.slice o1 n1 k1)) (h : AtL S w sl (.slice o2 n2 k2)) (hS : ∀ b, S b → b < w.heap.size) (tr : totL r ≤ 1048576) (ts : totL sl ≤ 1048576) :
    Calls Tryz.prog 57 #[.agg #[.string nm, .slice o1 n1 k1, .slice o2 n2 k2, .string at_, .int .i64 si, .int .i64 st]] w fun e w' => e = .returned (.bool (runB (nm, r, sl, at_, si, st))) ∧ Below w.heap.size w w' := by
  have hm : ∀ W, (Go.method 379 135 (.agg #[.int .i64 si]) "loop.example/malthouse/impl.fits").run Tryz.prog W = .ok (221, .agg #[.int .i64 si]) W := fun W => by kernel_rfl
  have hna : ∀ W, (Go.nilAhead 379 135 (.agg #[.int .i64 si]) "loop.example/malthouse/impl.fits").run Tryz.prog W = .ok (some false) W := fun W => by kernel_rfl
  have hna2 : ∀ W, (Go.nilAhead 379 168 (.agg #[]) "loop.example/malthouse/impl.fits").run Tryz.prog W = .ok (some false) W := fun W => by kernel_rfl
  have hm2 : ∀ W, (Go.method 379 168 (.agg #[]) "loop.example/malthouse/impl.fits").run Tryz.prog W = .ok (222, .agg #[]) W := fun W => by kernel_rfl
  have HN : Hid (nm.size ≤ maxLen) := hn
  have TR : Hid (totL r ≤ 1048576) := tr
  have TS : Hid (totL sl ≤ 1048576) := ts
  obtain ⟨W, EW, BW, RW, sW⟩ := box_new w #[.string nm, .slice o1 n1 k1, .slice o2 n2 k2, .string at_, .int .i64 si, .int .i64 st] 50
  have BOX : Hid (∀ u, Below W.heap.size W u → u.heap[w.heap.size]? = some (.cells #[.string nm, .slice o1 n1 k1, .slice o2 n2 k2, .string at_, .int .i64 si, .int .i64 st] 50 (0, 0)) ∧ Below w.heap.size w u) := fun u hu => ⟨(hu.block _ (by omega)).trans RW.out, BW.out.trans (hu.mono (by omega))⟩
  have HR : Hid _ := hr.ups hS
  have HA : Hid _ := h.ups hS
  have HS : Hid _ := lt_up hS
  have h0 := fun u (hu : Below W.heap.size W u) => cell_row (BOX.out u hu).1
  have Y : Hid (∀ u, Below W.heap.size W u → u.cell? ⟨w.heap.size, 0, none⟩ = some (.string nm) ∧ u.cell? ⟨w.heap.size, 1, none⟩ = some (.slice o1 n1 k1) ∧ u.cell? ⟨w.heap.size, 2, none⟩ = some (.slice o2 n2 k2) ∧ u.cell? ⟨w.heap.size, 3, none⟩ = some (.string at_) ∧ u.cell? ⟨w.heap.size, 4, none⟩ = some (.int .i64 si) ∧ u.cell? ⟨w.heap.size, 5, none⟩ = some (.int .i64 st)) := fun u hu =>
    ⟨(h0 u hu 0 _ rfl).1, (h0 u hu 1 _ rfl).1, (h0 u hu 2 _ rfl).1, (h0 u hu 3 _ rfl).1, (h0 u hu 4 _ rfl).1, (h0 u hu 5 _ rfl).1⟩
  clear h0
  have PH : Hid (∀ k : Nat, atI r at_ = (k : Int) → k < n1 ∧ ∃ b off, o1 = some ⟨b, off, none⟩ ∧ b < w.heap.size ∧ w.cell? ⟨b, off + k * 8 + 5, none⟩ = some (.int .i64 (wiX r at_)) ∧ -9223372036854775808 ≤ wiX r at_ ∧ wiX r at_ ≤ 9223372036854775807) := fun k hk => by
    rcases at_cases r at_ with e | ⟨k', hk', e, _⟩
    · omega
    obtain rfl : k' = k := by omega
    obtain ⟨oa, cap, ev, _, hc⟩ := id hr
    obtain ⟨b, off, eo, hbS, cc, hcell, hat⟩ := hc k' hk'
    rw [width_DRecPhase] at hcell
    rw [at_DRecPhase] at hat
    have ew : wiX r at_ = r[k'].2.2.2.2.2.1 := by unfold wiX; rw [ph_at hk' e]
    cases ev
    refine ⟨hk', b, off, eo, hS b hbS, (hcell 5 (by omega)).trans (by rw [hat.2.2.2.2.2.1.1, ew]), ?_⟩
    rw [ew]
    exact hat.2.2.2.2.2.1.2
  have POS : Hid (recB r = true → 0 ≤ atI r at_ → 1 ≤ wiX r at_) := fun hrb h0 => by
    rcases at_cases r at_ with e | ⟨k', hk', e, _⟩
    · omega
    · have := (ph_name (step_of (rec_iff.1 hrb) hk').1).2.2.1
      have ew : wiX r at_ = r[k'].2.2.2.2.2.1 := by unfold wiX; rw [ph_at hk' e]
      rw [ew]
      omega
  clear h hr hS hn tr ts
  obtain ⟨R, hR⟩ : ∃ R, R = runB (nm, r, sl, at_, si, st) := ⟨_, rfl⟩
  have ER : Hid (R = (nameB nm && recB r && slB r sl && decide (1 ≤ st) && decide (0 ≤ atI r at_) && inB si (-1) (wiX r at_ - 1))) := hR
  rw [← hR]
  clear hR
  obtain ⟨y0, y1, y2, y3, y4, y5⟩ := Y.out W (Below.refl _ _)
  go_enter Tryz.func57, Tryz.ntmps57
  go_upto_region 1 with fail
  rw [← EW.out]
  go_wp2_with fail
  refine (nameI_any nm _ HN.out).mono ?_; rintro e w1 ⟨rfl, hb1⟩
  have B1 : Hid (Below W.heap.size W w1) := hb1
  have BW1 : Hid (Below w.heap.size w w1) := (BOX.out w1 hb1).2
  clear y0 y1 y2 y3 y4 y5 hb1
  obtain ⟨y0, y1, y2, y3, y4, y5⟩ := Y.out w1 B1.out
  cases c0 : nameB nm
  · have er : R = false := by rw [ER.out, c0]; simp
    clear y1 y2 y3 y4 y5
    go_wp2_with fail
    go_ret
    rw [er]
    exact ⟨rfl, BW1.out⟩
  by_cases c3 : st < 1
  · have er : R = false := by rw [ER.out, decide_eq_false (by omega : ¬ 1 ≤ st)]; simp
    go_wp2_with fail
    go_ret
    rw [er]
    exact ⟨rfl, BW1.out⟩
  have c3' : decide (1 ≤ st) = true := decide_eq_true (by omega)
  go_wp2_with fail
  refine (okI_any S r _ w1 (HR.out _ BW1.out) (HS.out _ BW1.out) TR.out).mono ?_; rintro e w2 ⟨rfl, hb2⟩
  have B2 : Hid (Below W.heap.size W w2) := B1.out.trans (hb2.mono B1.out.size)
  clear y0 y1 y2 y3 y4 y5 hb2
  obtain ⟨y0, y1, y2, y3, y4, y5⟩ := Y.out w2 B2.out
  have BW2 : Hid (Below w.heap.size w w2) := (BOX.out w2 B2.out).2
  cases c1 : recB r
  · have er : R = false := by rw [ER.out, c1]; simp
    clear y0 y1 y2 y3 y4 y5
    go_wp2_with fail
    go_ret
    rw [er]
    exact ⟨rfl, BW2.out⟩
  go_wp2_with fail
  refine (slotsOkP_any S nm at_ r sl si st o1 o2 n1 k1 n2 k2 w2 (HR.out _ BW2.out) (HA.out _ BW2.out) (HS.out _ BW2.out) TR.out TS.out (rec_iff.1 c1)).mono ?_; rintro e w3 ⟨rfl, hb3⟩
  have B3 : Hid (Below W.heap.size W w3) := B2.out.trans (hb3.mono B2.out.size)
  clear y0 y1 y2 y3 y4 y5 hb3
  obtain ⟨y0, y1, y2, y3, y4, y5⟩ := Y.out w3 B3.out
  have BW3 : Hid (Below w.heap.size w w3) := (BOX.out w3 B3.out).2
  cases c2 : slB r sl
  · have er : R = false := by rw [ER.out, c2]; simp
    clear y0 y1 y2 y3 y4 y5
    go_wp2_with fail
    go_ret
    rw [er]
    exact ⟨rfl, BW3.out⟩
  go_wp2_with fail
  refine (phAt_any S r _ at_ w3 (HR.out _ BW3.out) (HS.out _ BW3.out)).mono ?_; rintro e w4 ⟨rfl, hb4⟩
  have B4 : Hid (Below W.heap.size W w4) := B3.out.trans (hb4.mono B3.out.size)
  clear y0 y1 y2 y3 y4 y5 hb4
  obtain ⟨y0, y1, y2, y3, y4, y5⟩ := Y.out w4 B4.out
  have BW4 : Hid (Below w.heap.size w w4) := (BOX.out w4 B4.out).2
  have P := POS.out c1
  obtain ⟨ex, hex⟩ : ∃ k : Int, k = atI r at_ := ⟨_, rfl⟩
  by_cases c4 : atI r at_ < 0
  · have er : R = false := by rw [ER.out, decide_eq_false (by omega : ¬ 0 ≤ atI r at_)]; simp
    have d4 : decide (0 ≤ ex) = false := decide_eq_false (by omega)
    rw [← hex]
    clear P hex y0 y1 y2 y3 y5
    go_wp2_with fail
    refine wp_region_quiet_below (by kernel_rfl) (by kernel_rfl) ?_
    repeat (first | go_big_quiet_step (fail) | quiet_step (fail))
    refine wpQuiet_nil ?_
    intro _ hw'
    obtain ⟨⟨dq, osq⟩, hw''⟩ := hw'
    subst hw''
    go_wp2_with fail
    go_ret
    rw [er]
    exact ⟨rfl, BW4.out.trans ((below_regrown w4 dq osq).mono BW4.out.size)⟩
  obtain ⟨k, hk⟩ : ∃ k : Nat, atI r at_ = (k : Int) := ⟨(atI r at_).toNat, by omega⟩
  obtain ⟨hkn, b, off, rfl, hb, ce, hl, hh⟩ := PH.out k hk
  have hpos := P (by omega)
  obtain ⟨v, hv⟩ : ∃ v, v = wiX r at_ := ⟨_, rfl⟩
  rw [← hv] at ce hl hh hpos
  have x5 := (BW4.out.cell (p := ⟨b, off + k * 8 + 5, none⟩) hb).trans ce
  obtain ⟨I, hI⟩ : ∃ I, inB si (-1) (v - 1) = I := ⟨_, rfl⟩
  have er : R = I := by rw [ER.out, c0, c1, c2, c3', decide_eq_true (by omega : 0 ≤ atI r at_), ← hv, hI]; simp
  have q0 := fun d os => cell_regrown y0 d os
  have q1 := fun d os => cell_regrown y1 d os
  have q2 := fun d os => cell_regrown y2 d os
  have q3 := fun d os => cell_regrown y3 d os
  have q4 := fun d os => cell_regrown y4 d os
  have q5 := fun d os => cell_regrown y5 d os
  have qx := fun d os => cell_regrown x5 d os
  rw [hk]
  clear P hex hv x5 ce y0 y1 y2 y3 y4 y5 hk c4
  by_cases c5 : si = -1
  · subst c5
    have hIt : I = true := by rw [← hI]; simp [inB]; omega
    have hp : ∀ d os, Calls Tryz.prog 93 #[.agg #[.string nm, .slice (some ⟨b, off, none⟩) n1 k1, .slice o2 n2 k2, .string at_, .int .i64 (-1), .int .i64 st]] (grow (redrawn w4 d) os) fun e w'' => e = .returned (.iface 168 (.agg #[])) ∧ ∃ p : Regrown, w'' = grow (redrawn w4 p.d) p.os := fun d os => pace_q nm at_ (-1) st _ o2 n1 k1 n2 k2 w4 d os
    go_wp2_with fail
    refine wp_region_quiet_below (by kernel_rfl) (by kernel_rfl) ?_
    repeat (first | go_big_quiet_step (first | (with_reducible exact hp _ _) | (with_reducible exact fitsW_q _ _ _ _)) | quiet_step (first | (with_reducible exact hp _ _) | (with_reducible exact fitsW_q _ _ _ _)))
    refine wpQuiet_nil ?_
    intro _ hw'
    obtain ⟨⟨dq, osq⟩, hw''⟩ := hw'
    subst hw''
    go_wp2_with fail
    go_ret
    rw [er, hIt]
    exact ⟨rfl, BW4.out.trans ((below_regrown w4 dq osq).mono BW4.out.size)⟩
  · have hI2 : (decide (0 ≤ si) && decide (si < v)) = I := by rw [pace_in c5, hI]
    have hp : ∀ d os, Calls Tryz.prog 93 #[.agg #[.string nm, .slice (some ⟨b, off, none⟩) n1 k1, .slice o2 n2 k2, .string at_, .int .i64 si, .int .i64 st]] (grow (redrawn w4 d) os) fun e w'' => e = .returned (.iface 135 (.agg #[.int .i64 si])) ∧ ∃ p : Regrown, w'' = grow (redrawn w4 p.d) p.os := fun d os => by
      rw [← pa_g c5]; exact pace_q nm at_ si st _ o2 n1 k1 n2 k2 w4 d os
    go_wp2_with fail
    refine wp_region_quiet_below (by kernel_rfl) (by kernel_rfl) ?_
    repeat (first | go_big_quiet_step (first | (with_reducible exact hp _ _) | (with_reducible exact fitsG_q _ _ _ hI2 _ _ _)) | quiet_step (first | (with_reducible exact hp _ _) | (with_reducible exact fitsG_q _ _ _ hI2 _ _ _)))
    refine wpQuiet_nil ?_
    intro _ hw'
    obtain ⟨⟨dq, osq⟩, hw''⟩ := hw'
    subst hw''
    go_wp2_with fail
    go_ret
    rw [er]
    exact ⟨rfl, BW4.out.trans ((below_regrown w4 dq osq).mono BW4.out.size)⟩
theorem run_dist {r : List DRecPhase} {sl : List DRunSlot} {nm at_ : ByteArray} {si st : Int} (h : runB (nm, r, sl, at_, si, st) = true) : (sl.map (·.1)).Nodup :=
  ((sl_two (slt_asc r 12 _)).1 (run_rec h).2).1.dist (slt_asc r 12 _)
end Go.Proofs.YtobchllaopdchabGreat

namespace Go.Proofs.YtobchllaopdchabGreat
open Go.RowKit Go.Sort
def SrR (Ba : List DRunBatch) : Prop := ∀ i (hi : i < Ba.length) m (hm : m < Ba.length), i = m + 1 → Ba[m].2.2.2.2.2 < Ba[i].2.2.2.2.2
noncomputable def srR (Ba : List DRunBatch) : Bool := @decide (SrR Ba) (Classical.propDecidable _)
theorem srR_yes {Ba : List DRunBatch} (h : SrR Ba) : srR Ba = true := by unfold srR; exact @decide_eq_true _ (Classical.propDecidable _) h
theorem srR_no {Ba : List DRunBatch} (h : ¬ SrR Ba) : srR Ba = false := by unfold srR; exact @decide_eq_false _ (Classical.propDecidable _) h
theorem srR_iff {Ba : List DRunBatch} : srR Ba = true ↔ SrR Ba := by unfold srR; exact @decide_eq_true_iff _ (Classical.propDecidable _)
noncomputable def on1 (last : Int) (b : DRunBatch) : Bool := runB b && decide (b.2.2.2.2.2 ≤ last)
noncomputable def basB (last : Int) (Ba : List DRunBatch) : Bool := decide (Ba.length ≤ 5) && (Ba.all (on1 last) && srR Ba)
theorem bas_long {last : Int} {Ba : List DRunBatch} (h : ¬ Ba.length ≤ 5) : basB last Ba = false := by unfold basB; rw [decide_eq_false h]; rfl
theorem bas_one {last : Int} {Ba : List DRunBatch} {i : Nat} (hi : i < Ba.length) (h : on1 last Ba[i] = false) : basB last Ba = false := by
  have : Ba.all (on1 last) = false := by
    rw [Bool.eq_false_iff]
    intro hh
    rw [List.all_eq_true.1 hh _ (List.getElem_mem hi)] at h
    cases h
  unfold basB; rw [this]; simp
theorem bas_all {last : Int} {Ba : List DRunBatch} (hl : Ba.length ≤ 5) (h : ∀ i (hi : i < Ba.length), on1 last Ba[i] = true) : basB last Ba = srR Ba := by
  have : Ba.all (on1 last) = true := by
    rw [List.all_eq_true]
    intro b hb
    obtain ⟨i, hi, rfl⟩ := List.getElem_of_mem hb
    exact h i hi
  unfold basB; rw [this, decide_eq_true hl]; simp
theorem cmpBat_q (a b : ByteArray) (a1 a2 b1 b2 : Value) (aa ba : ByteArray) (asi ast bsi bst : Int) (wr : World) (r : Int) (hr : cmpI ast bst = r) (d : Nat) (os : Array Obj) : Calls Tryz.prog 55 #[.agg #[.string a, a1, a2, .string aa, .int .i64 asi, .int .i64 ast], .agg #[.string b, b1, b2, .string ba, .int .i64 bsi, .int .i64 bst]] (grow (redrawn wr d) os) fun e w'' => e = .returned (.int .i64 r) ∧ ∃ p : Regrown, w'' = grow (redrawn wr p.d) p.os :=
  Calls.regrown_of (by
    subst hr
    go_enter Tryz.func55, Tryz.ntmps55
    go_wp2_with (go_at_call 88; refine (cmpN_any _ _ _).mono ?_; rintro e w1 ⟨rfl, rfl⟩)
    go_ret
    exact ⟨rfl, ((Below.refl _ _).alloc (Nat.le_refl _) _).alloc (by simp) _⟩)
set_option maxRecDepth 100000 in
set_option maxHeartbeats 8000000 in
theorem ascRB_any (S : Nat → Prop) (Ba : List DRunBatch) (oa : Option Addr) (n cap : Nat) (w : World) (h : AtL S w Ba (.slice oa n cap)) (hS : ∀ b, S b → b < w.heap.size) :
    Calls Tryz.prog 89 #[.slice oa n cap, .func (.func 55) #[] #[]] w fun e w' => e = .returned (.bool (srR Ba)) ∧ Below w.heap.size w w' := by
  have en : Ba.length = n := by obtain ⟨_, _, e, _⟩ := h; cases e; rfl
  have hmx : n ≤ 9223372036854775807 := by obtain ⟨_, _, e, hf, _⟩ := id h; cases e; have := hf.1; unfold maxLen at this; omega
  have EN : Hid (Ba.length ≤ n ∧ n ≤ Ba.length) := ⟨by omega, by omega⟩
  have ROW : Hid (∀ i (hi : i < Ba.length), ∃ (b off : Nat) (o1 o2 : Option Addr) (n1 k1 n2 k2 : Nat), oa = some ⟨b, off, none⟩ ∧ b < w.heap.size ∧ w.cell? ⟨b, off + i * 6, none⟩ = some (.string Ba[i].1) ∧ w.cell? ⟨b, off + i * 6 + 1, none⟩ = some (.slice o1 n1 k1) ∧ w.cell? ⟨b, off + i * 6 + 2, none⟩ = some (.slice o2 n2 k2) ∧ w.cell? ⟨b, off + i * 6 + 3, none⟩ = some (.string Ba[i].2.2.2.1) ∧ w.cell? ⟨b, off + i * 6 + 4, none⟩ = some (.int .i64 Ba[i].2.2.2.2.1) ∧ w.cell? ⟨b, off + i * 6 + 5, none⟩ = some (.int .i64 Ba[i].2.2.2.2.2)) := fun i hi => by
    obtain ⟨b, off, o1, o2, n1, k1, n2, k2, e, hb, c0, c1, c2, c3, c4, c5, _⟩ := rb_at h i hi
    exact ⟨b, off, o1, o2, n1, k1, n2, k2, e, hS b hb, c0, c1, c2, c3, c4, c5⟩
  clear h hS en
  go_enter Tryz.func89, Tryz.ntmps89
  go_wp2_with fail
  go_loopw [5] (fun i wr => ∃ k : Nat, i = .int .i64 ((k : Int) + 1) ∧ (k + 1 ≤ n ∨ k = 0) ∧ Hid (∀ i (hi : i < Ba.length) m (hm : m < Ba.length), i = m + 1 → i < k + 1 → Ba[m].2.2.2.2.2 < Ba[i].2.2.2.2.2) ∧ Hid (Below w.heap.size w wr)) (fun i _ => n - (intOf i).toNat)
  case atStart => exact ⟨0, rfl, Or.inr rfl, fun i hi m hm e h => by omega, Below.refl _ _⟩
  case round =>
    obtain ⟨k, rfl, hk, hall, hbel⟩ := hrel
    have hs := hbel.out.size
    by_cases hlt : k + 1 < n
    case neg =>
      go_wp2_with fail
      go_ret
      rw [srR_yes fun i hi m hm e => hall.out i hi m hm e (by have := EN.out; omega)]
      exact ⟨rfl, hbel.out⟩
    clear hk
    have h1 : k + 1 < Ba.length := by have := EN.out; omega
    have h0 : k < Ba.length := by omega
    obtain ⟨b, off, o1, o2, n1, k1, n2, k2, rfl, hbw, c0, c1, c2, c3, c4, c5⟩ := ROW.out (k + 1) h1
    obtain ⟨_, _, p1, p2, m1, l1, m2, l2, eo, _, d0, d1, d2, d3, d4, d5⟩ := ROW.out k h0
    cases eo
    obtain ⟨f, ef⟩ : ∃ f, Ba[k + 1] = f := ⟨_, rfl⟩
    obtain ⟨g, eg⟩ : ∃ g, Ba[k] = g := ⟨_, rfl⟩
    rw [ef] at c0 c3 c4 c5
    rw [eg] at d0 d3 d4 d5
    obtain ⟨nm, r, sl, at_, si, st⟩ := f
    obtain ⟨pn, pr, psl, pat, psi, pst⟩ := g
    simp only at c0 c3 c4 c5 d0 d3 d4 d5
    have EF : Hid (Ba[k + 1].2.2.2.2.2 = st ∧ Ba[k].2.2.2.2.2 = pst) := ⟨by rw [ef], by rw [eg]⟩
    have q0 := fun d os => cell_regrown ((hbel.out.cell (p := ⟨b, off + (k + 1) * 6, none⟩) hbw).trans c0) d os
    have r0 := fun d os => cell_regrown ((hbel.out.cell (p := ⟨b, off + k * 6, none⟩) hbw).trans d0) d os
    have q1 := fun d os => cell_regrown ((hbel.out.cell (p := ⟨b, off + (k + 1) * 6 + 1, none⟩) hbw).trans c1) d os
    have r1 := fun d os => cell_regrown ((hbel.out.cell (p := ⟨b, off + k * 6 + 1, none⟩) hbw).trans d1) d os
    have q2 := fun d os => cell_regrown ((hbel.out.cell (p := ⟨b, off + (k + 1) * 6 + 2, none⟩) hbw).trans c2) d os
    have r2 := fun d os => cell_regrown ((hbel.out.cell (p := ⟨b, off + k * 6 + 2, none⟩) hbw).trans d2) d os
    have q3 := fun d os => cell_regrown ((hbel.out.cell (p := ⟨b, off + (k + 1) * 6 + 3, none⟩) hbw).trans c3) d os
    have r3 := fun d os => cell_regrown ((hbel.out.cell (p := ⟨b, off + k * 6 + 3, none⟩) hbw).trans d3) d os
    have q4 := fun d os => cell_regrown ((hbel.out.cell (p := ⟨b, off + (k + 1) * 6 + 4, none⟩) hbw).trans c4) d os
    have r4 := fun d os => cell_regrown ((hbel.out.cell (p := ⟨b, off + k * 6 + 4, none⟩) hbw).trans d4) d os
    have q5 := fun d os => cell_regrown ((hbel.out.cell (p := ⟨b, off + (k + 1) * 6 + 5, none⟩) hbw).trans c5) d os
    have r5 := fun d os => cell_regrown ((hbel.out.cell (p := ⟨b, off + k * 6 + 5, none⟩) hbw).trans d5) d os
    clear c0 c1 c2 c3 c4 c5 d0 d1 d2 d3 d4 d5 ef eg
    obtain ⟨v, hv⟩ : ∃ v, cmpI pst st = v := ⟨_, rfl⟩
    by_cases hlt2 : pst < st
    · have dv : decide (0 ≤ v) = false := by rw [← hv, cmpI_ge, decide_eq_true hlt2]; rfl
      have HP : Hid (Ba[k].2.2.2.2.2 < Ba[k + 1].2.2.2.2.2) := by rw [EF.out.1, EF.out.2]; exact hlt2
      go_wp2_with fail
      refine wp_region_quiet_below (by kernel_rfl) (by kernel_rfl) ?_
      repeat (first | go_big_quiet_step (first | (with_reducible exact cmpBat_q _ _ _ _ _ _ _ _ _ _ _ _ _ _ hv _ _)) | quiet_step (first | (with_reducible exact cmpBat_q _ _ _ _ _ _ _ _ _ _ _ _ _ _ hv _ _)))
      refine wpQuiet_nil ?_
      intro _ hw'
      obtain ⟨⟨dq, osq⟩, hw''⟩ := hw'
      subst hw''
      go_wp2_with fail
      go_roundw
      case rel => exact ⟨k + 1, by go_num, Or.inl (by omega), fun i hi m hm e h => by
        by_cases e2 : m = k
        · subst e2; subst e; exact HP.out
        · exact hall.out i hi m hm e (by omega), hbel.out.trans ((below_regrown wr dq osq).mono hs)⟩
      case measure => simp [intOf]; omega
    · have dv : decide (0 ≤ v) = true := by rw [← hv, cmpI_ge, decide_eq_false hlt2]; rfl
      have HP : Hid (¬ SrR Ba) := fun h => by
        have := h (k + 1) h1 k h0 rfl
        rw [EF.out.1, EF.out.2] at this
        exact hlt2 this
      go_wp2_with fail
      refine wp_region_quiet_below (by kernel_rfl) (by kernel_rfl) ?_
      repeat (first | go_big_quiet_step (first | (with_reducible exact cmpBat_q _ _ _ _ _ _ _ _ _ _ _ _ _ _ hv _ _)) | quiet_step (first | (with_reducible exact cmpBat_q _ _ _ _ _ _ _ _ _ _ _ _ _ _ hv _ _)))
      refine wpQuiet_nil ?_
      intro _ hw'
      obtain ⟨⟨dq, osq⟩, hw''⟩ := hw'
      subst hw''
      go_wp2_with fail
      go_ret
      rw [srR_no HP.out]
      exact ⟨rfl, hbel.out.trans ((below_regrown wr dq osq).mono hs)⟩
set_option maxRecDepth 100000 in
set_option maxHeartbeats 8000000 in
theorem batOne_any (S : Nat → Prop) (last : Int) (nm : ByteArray) (r : List DRecPhase) (sl : List DRunSlot) (at_ : ByteArray) (si st : Int) (o1 o2 : Option Addr) (n1 k1 n2 k2 hb : Nat) (w : World) (hn : nm.size ≤ maxLen) (hr : AtL S w r (.slice o1 n1 k1)) (h : AtL S w sl (.slice o2 n2 k2)) (hS : ∀ b, S b → b < w.heap.size) (tr : totL r ≤ 1048576) (ts : totL sl ≤ 1048576) (hx : w.cell? ⟨hb, 1, none⟩ = some (.int .i64 last)) (hlt : hb < w.heap.size) :
    Calls Tryz.prog 56 #[.agg #[.string nm, .slice o1 n1 k1, .slice o2 n2 k2, .string at_, .int .i64 si, .int .i64 st], .pointer (some ⟨hb, 0, none⟩)] w fun e w' => e = .returned (.bool (on1 last (nm, r, sl, at_, si, st))) ∧ Below w.heap.size w w' := by
  obtain ⟨W, EW, BW, RW, sW⟩ := box_new w #[.string nm, .slice o1 n1 k1, .slice o2 n2 k2, .string at_, .int .i64 si, .int .i64 st] 50
  have C : Hid _ := runI_any S nm r sl at_ si st o1 o2 n1 k1 n2 k2 W hn (hr.same (Same.of_below BW.out hS)) (h.same (Same.of_below BW.out hS)) (fun b hb => Nat.lt_of_lt_of_le (hS b hb) BW.out.size) tr ts
  clear hr h hS tr ts hn
  obtain ⟨V, hV⟩ : ∃ V, V = on1 last (nm, r, sl, at_, si, st) := ⟨_, rfl⟩
  have ER : Hid (∀ R : Bool, runB (nm, r, sl, at_, si, st) = R → V = (R && decide (st ≤ last))) := fun R h => by rw [hV, ← h]; rfl
  rw [← hV]
  clear hV
  have Y : Hid (∀ u, Below W.heap.size W u → Below w.heap.size w u ∧ (u.cell? ⟨w.heap.size, 5, none⟩ = some (.int .i64 st)) ∧ u.cell? ⟨hb, 1, none⟩ = some (.int .i64 last)) := fun u hu => by
    have B : Below w.heap.size w u := BW.out.trans (hu.mono (by omega))
    exact ⟨B, (cell_row ((hu.block _ (by omega)).trans RW.out) 5 _ rfl).1, (B.cell (p := ⟨hb, 1, none⟩) hlt).trans hx⟩
  have y := fun i v h => (cell_row RW.out i v h).1
  have x0 := y 0 _ rfl
  have x1 := y 1 _ rfl
  have x2 := y 2 _ rfl
  have x3 := y 3 _ rfl
  have x4 := y 4 _ rfl
  have x5 := y 5 _ rfl
  clear y hx
  go_enter Tryz.func56, Tryz.ntmps56
  go_upto_region 1 with fail
  rw [← EW.out]
  go_wp2_with fail
  refine Calls.mono C.out ?_; rintro e w1 ⟨rfl, hb1⟩
  obtain ⟨B1', y5, yh⟩ := Y.out w1 hb1
  have B1 : Hid _ := B1'
  clear x0 x1 x2 x3 x4 x5 hb1 B1' C
  cases c : runB (nm, r, sl, at_, si, st)
  · have er : Hid (V = false) := by show _ = _; rw [ER.out _ c]; rfl
    go_wp2_with fail
    go_ret
    rw [er.out]
    exact ⟨rfl, B1.out⟩
  · have er : Hid (V = decide (st ≤ last)) := by show _ = _; rw [ER.out _ c]; rfl
    go_wp2_with fail
    go_ret
    rw [er.out]
    exact ⟨rfl, B1.out⟩
set_option maxRecDepth 100000 in
set_option maxHeartbeats 8000000 in
theorem listRB_any (S : Nat → Prop) (last : Int) (Ba : List DRunBatch) (oa : Option Addr) (n cap hb : Nat) (w : World) (h : AtL S w Ba (.slice oa n cap)) (hS : ∀ b, S b → b < w.heap.size) (hT : ∀ i (hi : i < Ba.length), totL Ba[i].2.1 ≤ 1048576 ∧ totL Ba[i].2.2.1 ≤ 1048576) (hx : w.cell? ⟨hb, 1, none⟩ = some (.int .i64 last)) (hlt' : hb < w.heap.size) :
    Calls Tryz.prog 54 #[.slice oa n cap, .int .i64 5, .func (.func 55) #[] #[], .func (.func 56) #[] #[.pointer (some ⟨hb, 0, none⟩)]] w fun e w' => e = .returned (.bool (basB last Ba)) ∧ Below w.heap.size w w' := by
  have en : Ba.length = n := by obtain ⟨_, _, e, _⟩ := h; cases e; rfl
  have hmx : n ≤ 9223372036854775807 := by obtain ⟨_, _, e, hf, _⟩ := id h; cases e; have := hf.1; unfold maxLen at this; omega
  have EN : Hid (Ba.length ≤ n ∧ n ≤ Ba.length) := ⟨by omega, by omega⟩
  have H : Hid _ := h.ups hS
  have HS : Hid _ := lt_up hS
  have HT : Hid _ := hT
  have HX : Hid (∀ u, Below w.heap.size w u → u.cell? ⟨hb, 1, none⟩ = some (.int .i64 last)) := fun u hu => (hu.cell (p := ⟨hb, 1, none⟩) hlt').trans hx
  obtain ⟨V, hV⟩ : ∃ V, V = basB last Ba := ⟨_, rfl⟩
  have LONG : Hid (¬ n ≤ 5 → V = false) := fun hn => by rw [hV]; exact bas_long (by omega)
  have ONE : Hid (∀ i (hi : i < Ba.length), on1 last Ba[i] = false → V = false) := fun i hi h => by rw [hV]; exact bas_one hi h
  have ALL : Hid (n ≤ 5 → (∀ i (hi : i < Ba.length), on1 last Ba[i] = true) → V = srR Ba) := fun hn h => by rw [hV]; exact bas_all (by omega) h
  rw [← hV]
  clear h hS hT hx en hV
  go_enter Tryz.func54, Tryz.ntmps54
  by_cases hl : n ≤ 5
  case neg =>
    have d0 : decide ((5 : Int) < (n : Int)) = true := decide_eq_true (by omega)
    go_wp2_with fail
    go_ret
    rw [LONG.out hl]
    exact ⟨rfl, Below.refl _ _⟩
  have d0 : decide ((5 : Int) < (n : Int)) = false := decide_eq_false (by omega)
  go_wp2_with fail
  clear d0
  go_loopw [17] (fun i wr => ∃ k : Nat, k ≤ n ∧ i = .int .i64 k ∧ Hid (∀ j (hj : j < Ba.length), j < k → on1 last Ba[j] = true) ∧ Hid (Below w.heap.size w wr)) (fun i _ => n - (intOf i).toNat)
  case atStart => exact ⟨0, Nat.zero_le _, rfl, fun _ _ h => by omega, Below.refl _ _⟩
  case round =>
    obtain ⟨k, hk, rfl, hall, hbel⟩ := hrel
    have hs := hbel.out.size
    by_cases hlt : k < n
    case neg =>
      have AV : Hid (V = srR Ba) := ALL.out hl (fun i hi => hall.out i hi (by have := EN.out; omega))
      have C : Hid _ := ascRB_any S Ba oa n cap wr (H.out wr hbel.out) (HS.out wr hbel.out)
      go_wp2_with fail
      refine Calls.mono C.out ?_; rintro e w1 ⟨rfl, hb1⟩
      have B1 : Hid (Below w.heap.size w w1) := hbel.out.trans (hb1.mono hs)
      rw [← AV.out]
      clear hb1 C
      go_wp2_with fail
      go_ret
      exact ⟨rfl, B1.out⟩
    have hks : k < Ba.length := by have := EN.out; omega
    obtain ⟨b, off, o1, o2, n1, k1, n2, k2, rfl, hbS, c0, c1, c2, c3, c4, c5, z0, hr, hsl⟩ := rb_at (H.out wr hbel.out) k hks
    obtain ⟨f, ef⟩ : ∃ f, Ba[k] = f := ⟨_, rfl⟩
    have T2 := HT.out k hks
    rw [ef] at c0 c3 c4 c5 z0 hr hsl T2
    obtain ⟨nm, r, sl, at_, si, st⟩ := f
    simp only at c0 c3 c4 c5 z0 hr hsl T2
    have EF : Hid (Ba[k] = (nm, r, sl, at_, si, st)) := ef
    have FX : Hid (AtL S wr r (.slice o1 n1 k1) ∧ AtL S wr sl (.slice o2 n2 k2) ∧ nm.size ≤ maxLen ∧ totL r ≤ 1048576 ∧ totL sl ≤ 1048576) := ⟨hr, hsl, z0, T2.1, T2.2⟩
    have HSR : Hid _ := HS.out wr hbel.out
    have BXX : Hid (∀ o, Below w.heap.size w (wr.alloc o)) := fun o => hbel.out.alloc hs o
    have CW : Hid (∀ W', Below wr.heap.size wr W' → Calls Tryz.prog 56 #[.agg #[.string nm, .slice o1 n1 k1, .slice o2 n2 k2, .string at_, .int .i64 si, .int .i64 st], .pointer (some ⟨hb, 0, none⟩)] W' fun e w' => e = .returned (.bool (on1 last (nm, r, sl, at_, si, st))) ∧ Below W'.heap.size W' w') := fun W' hW' =>
      batOne_any S last nm r sl at_ si st o1 o2 n1 k1 n2 k2 hb W' FX.out.2.2.1 (FX.out.1.same (Same.of_below hW' HSR.out)) (FX.out.2.1.same (Same.of_below hW' HSR.out)) (fun b hb => Nat.lt_of_lt_of_le (HSR.out b hb) hW'.size) FX.out.2.2.2.1 FX.out.2.2.2.2 (HX.out W' (hbel.out.trans (hW'.mono hs))) (by have := hW'.size; omega)
    clear z0 hr hsl T2 ef
    cases c : on1 last (nm, r, sl, at_, si, st)
    · have AV : Hid (V = false) := ONE.out k hks (by rw [EF.out]; exact c)
      go_wp2_with fail
      refine Calls.mono (CW.out _ ((Below.refl _ _).alloc (Nat.le_refl _) _)) ?_; rintro e w1 ⟨rfl, hb1⟩
      rw [c]
      have B1 : Hid (Below w.heap.size w w1) := (BXX.out _).trans (hb1.mono (BXX.out _).size)
      clear hb1
      go_wp2_with fail
      go_ret
      rw [AV.out]
      exact ⟨rfl, B1.out⟩
    · have HP : Hid (on1 last Ba[k] = true) := by show _ = _; rw [EF.out]; exact c
      go_wp2_with fail
      refine Calls.mono (CW.out _ ((Below.refl _ _).alloc (Nat.le_refl _) _)) ?_; rintro e w1 ⟨rfl, hb1⟩
      rw [c]
      have B1 : Hid (Below w.heap.size w w1) := (BXX.out _).trans (hb1.mono (BXX.out _).size)
      clear hb1
      go_wp2_with fail
      go_roundw
      case rel => exact ⟨k + 1, by omega, by go_num, fun j hj hjk => by
        by_cases e : j = k
        · subst e; exact HP.out
        · exact hall.out j hj (by omega), B1.out⟩
      case measure => simp [intOf]; omega
set_option maxRecDepth 100000 in
set_option maxHeartbeats 8000000 in
theorem batchesP_any (S : Nat → Prop) (now last : Int) (o2 o3 o4 o5 : Option Addr) (n2 k2 n3 k3 n4 k4 n5 k5 : Nat) (Ba : List DRunBatch) (w : World) (h : AtL S w Ba (.slice o4 n4 k4)) (hS : ∀ b, S b → b < w.heap.size) (hT : ∀ i (hi : i < Ba.length), totL Ba[i].2.1 ≤ 1048576 ∧ totL Ba[i].2.2.1 ≤ 1048576) :
    Calls Tryz.prog 24 #[.agg #[.int .i64 now, .int .i64 last, .slice o2 n2 k2, .slice o3 n3 k3, .slice o4 n4 k4, .slice o5 n5 k5]] w fun e w' => e = .returned (.bool (basB last Ba)) ∧ Below w.heap.size w w' := by
  have hmf : ∀ (fn : Fn) (first cap : Array Value) (w : World), (Instr.makeFunc fn first cap).run Tryz.prog w = .ok (.func fn first cap) w := fun _ _ _ _ => rfl
  obtain ⟨W, EW, BW, RW, sW⟩ := box_new w #[.int .i64 now, .int .i64 last, .slice o2 n2 k2, .slice o3 n3 k3, .slice o4 n4 k4, .slice o5 n5 k5] 38
  have BOX : Hid (∀ u, Below W.heap.size W u → u.heap[w.heap.size]? = some (.cells #[.int .i64 now, .int .i64 last, .slice o2 n2 k2, .slice o3 n3 k3, .slice o4 n4 k4, .slice o5 n5 k5] 38 (0, 0)) ∧ Below w.heap.size w u) := fun u hu => ⟨(hu.block _ (by omega)).trans RW.out, BW.out.trans (hu.mono (by omega))⟩
  have y4 := (cell_row RW.out 4 _ rfl).1
  have C : Hid _ := listRB_any S last Ba o4 n4 k4 w.heap.size W (h.same (Same.of_below BW.out hS)) (fun b hb => Nat.lt_of_lt_of_le (hS b hb) BW.out.size) hT (cell_row RW.out 1 _ rfl).1 (by omega)
  clear h hS hT
  go_enter Tryz.func24, Tryz.ntmps24
  go_upto_region 1 with fail
  rw [← EW.out]
  go_wp2_with fail
  refine Calls.mono C.out ?_; rintro e w1 ⟨rfl, hb1⟩
  have HB : Hid (Below w.heap.size w w1) := BW.out.trans (hb1.mono BW.out.size)
  clear hb1 C
  go_wp2_with fail
  go_ret
  exact ⟨rfl, HB.out⟩
end Go.Proofs.YtobchllaopdchabGreat
