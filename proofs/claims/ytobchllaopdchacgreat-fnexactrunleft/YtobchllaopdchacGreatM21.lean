/-
  Several texts in one.
-/
import Derived.Test.YtobchllaopdchacGreatM17
import Derived.Test.YtobchllaopdchacGreatM7
import Derived.Test.YtobchllaopdchacGreatM15
import Derived.Test.YtobchllaopdchacGreatM20
import Derived.Test.YtobchllaopdchacGreatM9
import Derived.Test.YtobchllaopdchacGreatShelf
import Derived.Sort.OwnSorted
namespace Go.Proofs.YtobchllaopdchacGreat
open Go.RowKit Go.Sort
theorem pace_in {si v : Int} (h : ¬ si = -1) : (decide (0 ≤ si) && decide (si < v)) = inB si (-1) (v - 1) := by
  have e : inB si (-1) (v - 1) = (decide (-1 ≤ si) && decide (si ≤ v - 1)) := by simp [inB]
  rw [e]
  by_cases h1 : 0 ≤ si
  · rw [decide_eq_true h1, decide_eq_true (by omega : -1 ≤ si)]
    simp only [Bool.true_and]
    congr 1
    exact propext ⟨fun _ => by omega, fun _ => by omega⟩
  · rw [decide_eq_false h1, decide_eq_false (by omega : ¬ -1 ≤ si)]
    rfl
theorem pace_q (nm at_ : ByteArray) (si st : Int) (o1 o2 : Option Addr) (n1 k1 n2 k2 : Nat) (wr : World) (d : Nat) (os : Array Obj) : Calls Tryz.prog 46 #[.agg #[.string nm, .slice o1 n1 k1, .slice o2 n2 k2, .string at_, .int .i64 si, .int .i64 st]] (grow (redrawn wr d) os) fun e w'' => e = .returned (paV si) ∧ ∃ p : Regrown, w'' = grow (redrawn wr p.d) p.os :=
  Calls.regrown_of (pace_any nm at_ si st o1 o2 n1 k1 n2 k2 _)
theorem fitsW_q (wi : Int) (wr : World) (d : Nat) (os : Array Obj) : Calls Tryz.prog 232 #[.agg #[], .int .i64 wi] (grow (redrawn wr d) os) fun e w'' => e = .returned (.bool true) ∧ ∃ p : Regrown, w'' = grow (redrawn wr p.d) p.os :=
  Calls.regrown_of (fitsW_any wi _)
theorem fitsG_q (si wi : Int) (I : Bool) (hI : (decide (0 ≤ si) && decide (si < wi)) = I) (wr : World) (d : Nat) (os : Array Obj) : Calls Tryz.prog 231 #[.agg #[.int .i64 si], .int .i64 wi] (grow (redrawn wr d) os) fun e w'' => e = .returned (.bool I) ∧ ∃ p : Regrown, w'' = grow (redrawn wr p.d) p.os :=
  Calls.regrown_of ((fitsG_any si wi _).mono fun _ _ ⟨he, hw⟩ => ⟨by subst hI; exact he, hw⟩)
set_option maxRecDepth 100000 in
set_option maxHeartbeats 8000000 in
theorem runI_any (S : Nat → Prop) (nm : ByteArray) (r : List DRecPhase) (sl : List DRunSlot) (at_ : ByteArray) (si st : Int) (o1 o2 : Option Addr) (n1 k1 n2 k2 : Nat) (w : World) (hn : nm.size ≤ maxLen) (hr : AtL S w r (.slice o1 n1 k1)) (h : AtL S w sl (.slice o2 n2 k2)) (hS : ∀ b, S b → b < w.heap.size) (tr : totL r ≤ 1048576) (ts : totL sl ≤ 1048576) :
    Calls Tryz.prog 75 #[.agg #[.string nm, .slice o1 n1 k1, .slice o2 n2 k2, .string at_, .int .i64 si, .int .i64 st]] w fun e w' => e = .returned (.bool (runB (nm, r, sl, at_, si, st))) ∧ Below w.heap.size w w' := by
  have hm : ∀ W, (Go.method 388 83 (.agg #[.int .i64 si]) "loop.example/malthouse/impl.fits").run Tryz.prog W = .ok (231, .agg #[.int .i64 si]) W := fun W => by kernel_rfl
  have hna : ∀ W, (Go.nilAhead 388 83 (.agg #[.int .i64 si]) "loop.example/malthouse/impl.fits").run Tryz.prog W = .ok (some false) W := fun W => by kernel_rfl
  have hna2 : ∀ W, (Go.nilAhead 388 130 (.agg #[]) "loop.example/malthouse/impl.fits").run Tryz.prog W = .ok (some false) W := fun W => by kernel_rfl
  have hm2 : ∀ W, (Go.method 388 130 (.agg #[]) "loop.example/malthouse/impl.fits").run Tryz.prog W = .ok (232, .agg #[]) W := fun W => by kernel_rfl
  have HN : Hid (nm.size ≤ maxLen) := hn
  have TR : Hid (totL r ≤ 1048576) := tr
  have TS : Hid (totL sl ≤ 1048576) := ts
  obtain ⟨W, EW, BW, RW, sW⟩ := box_new w #[.string nm, .slice o1 n1 k1, .slice o2 n2 k2, .string at_, .int .i64 si, .int .i64 st] 49
  have BOX : Hid (∀ u, Below W.heap.size W u → u.heap[w.heap.size]? = some (.cells #[.string nm, .slice o1 n1 k1, .slice o2 n2 k2, .string at_, .int .i64 si, .int .i64 st] 49 (0, 0)) ∧ Below w.heap.size w u) := fun u hu => ⟨(hu.block _ (by omega)).trans RW.out, BW.out.trans (hu.mono (by omega))⟩
  have HR : Hid _ := hr.ups hS
  have HA : Hid _ := h.ups hS
  have HS : Hid _ := lt_up hS
  have h0 := fun u (hu : Below W.heap.size W u) => cell_row (BOX.out u hu).1
  have Y : Hid (∀ u, Below W.heap.size W u → u.cell? ⟨w.heap.size, 0, none⟩ = some (.string nm) ∧ u.cell? ⟨w.heap.size, 1, none⟩ = some (.slice o1 n1 k1) ∧ u.cell? ⟨w.heap.size, 2, none⟩ = some (.slice o2 n2 k2) ∧ u.cell? ⟨w.heap.size, 3, none⟩ = some (.string at_) ∧ u.cell? ⟨w.heap.size, 4, none⟩ = some (.int .i64 si) ∧ u.cell? ⟨w.heap.size, 5, none⟩ = some (.int .i64 st)) := fun u hu =>
    ⟨(h0 u hu 0 _ rfl).1, (h0 u hu 1 _ rfl).1, (h0 u hu 2 _ rfl).1, (h0 u hu 3 _ rfl).1, (h0 u hu 4 _ rfl).1, (h0 u hu 5 _ rfl).1⟩
  clear h0
  have PH : Hid (∀ k : Nat, atI r at_ = (k : Int) → k < n1 ∧ ∃ b off, o1 = some ⟨b, off, none⟩ ∧ b < w.heap.size ∧ w.cell? ⟨b, off + k * 8 + 5, none⟩ = some (.int .i64 (wiX r at_)) ∧ -9223372036854775808 ≤ wiX r at_ ∧ wiX r at_ ≤ 9223372036854775807) := fun k hk => by
    rcases at_cases r at_ with e | ⟨k', hk', e, _⟩
    · omega
    obtain rfl : k' = k := by omega
    obtain ⟨oa, cap, ev, _, hc⟩ := id hr
    obtain ⟨b, off, eo, hbS, cc, hcell, hat⟩ := hc k' hk'
    rw [width_DRecPhase] at hcell
    rw [at_DRecPhase] at hat
    have ew : wiX r at_ = r[k'].2.2.2.2.2.1 := by unfold wiX; rw [ph_at hk' e]
    cases ev
    refine ⟨hk', b, off, eo, hS b hbS, (hcell 5 (by omega)).trans (by rw [hat.2.2.2.2.2.1.1, ew]), ?_⟩
    rw [ew]
    exact hat.2.2.2.2.2.1.2
  have POS : Hid (recB r = true → 0 ≤ atI r at_ → 1 ≤ wiX r at_) := fun hrb h0 => by
    rcases at_cases r at_ with e | ⟨k', hk', e, _⟩
    · omega
    · have := (ph_name (step_of (rec_iff.1 hrb) hk').1).2.2.1
      have ew : wiX r at_ = r[k'].2.2.2.2.2.1 := by unfold wiX; rw [ph_at hk' e]
      rw [ew]
      omega
  clear h hr hS hn tr ts
  obtain ⟨R, hR⟩ : ∃ R, R = runB (nm, r, sl, at_, si, st) := ⟨_, rfl⟩
  have ER : Hid (R = (nameB nm && recB r && slB r sl && decide (1 ≤ st) && decide (0 ≤ atI r at_) && inB si (-1) (wiX r at_ - 1))) := hR
  rw [← hR]
  clear hR
  obtain ⟨y0, y1, y2, y3, y4, y5⟩ := Y.out W (Below.refl _ _)
  go_enter Tryz.func75, Tryz.ntmps75
  go_upto_region 1 with fail
  rw [← EW.out]
  go_wp2_with fail
  refine (nameI_any nm _ HN.out).mono ?_; rintro e w1 ⟨rfl, hb1⟩
  have B1 : Hid (Below W.heap.size W w1) := hb1
  have BW1 : Hid (Below w.heap.size w w1) := (BOX.out w1 hb1).2
  clear y0 y1 y2 y3 y4 y5 hb1
  obtain ⟨y0, y1, y2, y3, y4, y5⟩ := Y.out w1 B1.out
  cases c0 : nameB nm
  · have er : R = false := by rw [ER.out, c0]; simp
    clear y1 y2 y3 y4 y5
    go_wp2_with fail
    go_ret
    rw [er]
    exact ⟨rfl, BW1.out⟩
  by_cases c3 : st < 1
  · have er : R = false := by rw [ER.out, decide_eq_false (by omega : ¬ 1 ≤ st)]; simp
    go_wp2_with fail
    go_ret
    rw [er]
    exact ⟨rfl, BW1.out⟩
  have c3' : decide (1 ≤ st) = true := decide_eq_true (by omega)
  go_wp2_with fail
  refine (okI_any S r _ w1 (HR.out _ BW1.out) (HS.out _ BW1.out) TR.out).mono ?_; rintro e w2 ⟨rfl, hb2⟩
  have B2 : Hid (Below W.heap.size W w2) := B1.out.trans (hb2.mono B1.out.size)
  clear y0 y1 y2 y3 y4 y5 hb2
  obtain ⟨y0, y1, y2, y3, y4, y5⟩ := Y.out w2 B2.out
  have BW2 : Hid (Below w.heap.size w w2) := (BOX.out w2 B2.out).2
  cases c1 : recB r
  · have er : R = false := by rw [ER.out, c1]; simp
    clear y0 y1 y2 y3 y4 y5
    go_wp2_with fail
    go_ret
    rw [er]
    exact ⟨rfl, BW2.out⟩
  go_wp2_with fail
  refine (slotsOkP_any S nm at_ r sl si st o1 o2 n1 k1 n2 k2 w2 (HR.out _ BW2.out) (HA.out _ BW2.out) (HS.out _ BW2.out) TR.out TS.out (rec_iff.1 c1)).mono ?_; rintro e w3 ⟨rfl, hb3⟩
  have B3 : Hid (Below W.heap.size W w3) := B2.out.trans (hb3.mono B2.out.size)
  clear y0 y1 y2 y3 y4 y5 hb3
  obtain ⟨y0, y1, y2, y3, y4, y5⟩ := Y.out w3 B3.out
  have BW3 : Hid (Below w.heap.size w w3) := (BOX.out w3 B3.out).2
  cases c2 : slB r sl
  · have er : R = false := by rw [ER.out, c2]; simp
    clear y0 y1 y2 y3 y4 y5
    go_wp2_with fail
    go_ret
    rw [er]
    exact ⟨rfl, BW3.out⟩
  go_wp2_with fail
  refine (phAt_any S r _ at_ w3 (HR.out _ BW3.out) (HS.out _ BW3.out)).mono ?_; rintro e w4 ⟨rfl, hb4⟩
  have B4 : Hid (Below W.heap.size W w4) := B3.out.trans (hb4.mono B3.out.size)
  clear y0 y1 y2 y3 y4 y5 hb4
  obtain ⟨y0, y1, y2, y3, y4, y5⟩ := Y.out w4 B4.out
  have BW4 : Hid (Below w.heap.size w w4) := (BOX.out w4 B4.out).2
  have P := POS.out c1
  obtain ⟨ex, hex⟩ : ∃ k : Int, k = atI r at_ := ⟨_, rfl⟩
  by_cases c4 : atI r at_ < 0
  · have er : R = false := by rw [ER.out, decide_eq_false (by omega : ¬ 0 ≤ atI r at_)]; simp
    have d4 : decide (0 ≤ ex) = false := decide_eq_false (by omega)
    rw [← hex]
    clear P hex y0 y1 y2 y3 y5
    go_wp2_with fail
    refine wp_region_quiet_below (by kernel_rfl) (by kernel_rfl) ?_
    repeat (first | go_big_quiet_step (fail) | quiet_step (fail))
    refine wpQuiet_nil ?_
    intro _ hw'
    obtain ⟨⟨dq, osq⟩, hw''⟩ := hw'
    subst hw''
    go_wp2_with fail
    go_ret
    rw [er]
    exact ⟨rfl, BW4.out.trans ((below_regrown w4 dq osq).mono BW4.out.size)⟩
  obtain ⟨k, hk⟩ : ∃ k : Nat, atI r at_ = (k : Int) := ⟨(atI r at_).toNat, by omega⟩
  obtain ⟨hkn, b, off, rfl, hb, ce, hl, hh⟩ := PH.out k hk
  have hpos := P (by omega)
  obtain ⟨v, hv⟩ : ∃ v, v = wiX r at_ := ⟨_, rfl⟩
  rw [← hv] at ce hl hh hpos
  have x5 := (BW4.out.cell (p := ⟨b, off + k * 8 + 5, none⟩) hb).trans ce
  obtain ⟨I, hI⟩ : ∃ I, inB si (-1) (v - 1) = I := ⟨_, rfl⟩
  have er : R = I := by rw [ER.out, c0, c1, c2, c3', decide_eq_true (by omega : 0 ≤ atI r at_), ← hv, hI]; simp
  have q0 := fun d os => cell_regrown y0 d os
  have q1 := fun d os => cell_regrown y1 d os
  have q2 := fun d os => cell_regrown y2 d os
  have q3 := fun d os => cell_regrown y3 d os
  have q4 := fun d os => cell_regrown y4 d os
  have q5 := fun d os => cell_regrown y5 d os
  have qx := fun d os => cell_regrown x5 d os
  rw [hk]
  clear P hex hv x5 ce y0 y1 y2 y3 y4 y5 hk c4
  by_cases c5 : si = -1
  · subst c5
    have hIt : I = true := by rw [← hI]; simp [inB]; omega
    have hp : ∀ d os, Calls Tryz.prog 46 #[.agg #[.string nm, .slice (some ⟨b, off, none⟩) n1 k1, .slice o2 n2 k2, .string at_, .int .i64 (-1), .int .i64 st]] (grow (redrawn w4 d) os) fun e w'' => e = .returned (.iface 130 (.agg #[])) ∧ ∃ p : Regrown, w'' = grow (redrawn w4 p.d) p.os := fun d os => pace_q nm at_ (-1) st _ o2 n1 k1 n2 k2 w4 d os
    go_wp2_with fail
    refine wp_region_quiet_below (by kernel_rfl) (by kernel_rfl) ?_
    repeat (first | go_big_quiet_step (first | (with_reducible exact hp _ _) | (with_reducible exact fitsW_q _ _ _ _)) | quiet_step (first | (with_reducible exact hp _ _) | (with_reducible exact fitsW_q _ _ _ _)))
    refine wpQuiet_nil ?_
    intro _ hw'
    obtain ⟨⟨dq, osq⟩, hw''⟩ := hw'
    subst hw''
    go_wp2_with fail
    go_ret
    rw [er, hIt]
    exact ⟨rfl, BW4.out.trans ((below_regrown w4 dq osq).mono BW4.out.size)⟩
  · have hI2 : (decide (0 ≤ si) && decide (si < v)) = I := by rw [pace_in c5, hI]
    have hp : ∀ d os, Calls Tryz.prog 46 #[.agg #[.string nm, .slice (some ⟨b, off, none⟩) n1 k1, .slice o2 n2 k2, .string at_, .int .i64 si, .int .i64 st]] (grow (redrawn w4 d) os) fun e w'' => e = .returned (.iface 83 (.agg #[.int .i64 si])) ∧ ∃ p : Regrown, w'' = grow (redrawn w4 p.d) p.os := fun d os => by
      rw [← pa_g c5]; exact pace_q nm at_ si st _ o2 n1 k1 n2 k2 w4 d os
    go_wp2_with fail
    refine wp_region_quiet_below (by kernel_rfl) (by kernel_rfl) ?_
    repeat (first | go_big_quiet_step (first | (with_reducible exact hp _ _) | (with_reducible exact fitsG_q _ _ _ hI2 _ _ _)) | quiet_step (first | (with_reducible exact hp _ _) | (with_reducible exact fitsG_q _ _ _ hI2 _ _ _)))
    refine wpQuiet_nil ?_
    intro _ hw'
    obtain ⟨⟨dq, osq⟩, hw''⟩ := hw'
    subst hw''
    go_wp2_with fail
    go_ret
    rw [er]
    exact ⟨rfl, BW4.out.trans ((below_regrown w4 dq osq).mono BW4.out.size)⟩
theorem run_dist {r : List DRecPhase} {sl : List DRunSlot} {nm at_ : ByteArray} {si st : Int} (h : runB (nm, r, sl, at_, si, st) = true) : (sl.map (·.1)).Nodup :=
  ((sl_two (slt_asc r 12 _)).1 (run_rec h).2).1.dist (slt_asc r 12 _)
end Go.Proofs.YtobchllaopdchacGreat

namespace Go.Proofs.YtobchllaopdchacGreat
open Go.RowKit Go.Sort
def SrR (Ba : List DRunBatch) : Prop := ∀ i (hi : i < Ba.length) m (hm : m < Ba.length), i = m + 1 → Ba[m].2.2.2.2.2 < Ba[i].2.2.2.2.2
noncomputable def srR (Ba : List DRunBatch) : Bool := @decide (SrR Ba) (Classical.propDecidable _)
theorem srR_yes {Ba : List DRunBatch} (h : SrR Ba) : srR Ba = true := by unfold srR; exact @decide_eq_true _ (Classical.propDecidable _) h
theorem srR_no {Ba : List DRunBatch} (h : ¬ SrR Ba) : srR Ba = false := by unfold srR; exact @decide_eq_false _ (Classical.propDecidable _) h
theorem srR_iff {Ba : List DRunBatch} : srR Ba = true ↔ SrR Ba := by unfold srR; exact @decide_eq_true_iff _ (Classical.propDecidable _)
noncomputable def on1 (last : Int) (b : DRunBatch) : Bool := runB b && decide (b.2.2.2.2.2 ≤ last)
noncomputable def basB (last : Int) (Ba : List DRunBatch) : Bool := decide (Ba.length ≤ 5) && (Ba.all (on1 last) && srR Ba)
theorem bas_long {last : Int} {Ba : List DRunBatch} (h : ¬ Ba.length ≤ 5) : basB last Ba = false := by unfold basB; rw [decide_eq_false h]; rfl
theorem bas_one {last : Int} {Ba : List DRunBatch} {i : Nat} (hi : i < Ba.length) (h : on1 last Ba[i] = false) : basB last Ba = false := by
  have : Ba.all (on1 last) = false := by
    rw [Bool.eq_false_iff]
    intro hh
    rw [List.all_eq_true.1 hh _ (List.getElem_mem hi)] at h
    cases h
  unfold basB; rw [this]; simp
theorem bas_all {last : Int} {Ba : List DRunBatch} (hl : Ba.length ≤ 5) (h : ∀ i (hi : i < Ba.length), on1 last Ba[i] = true) : basB last Ba = srR Ba := by
  have : Ba.all (on1 last) = true := by
    rw [List.all_eq_true]
    intro b hb
    obtain ⟨i, hi, rfl⟩ := List.getElem_of_mem hb
    exact h i hi
  unfold basB; rw [this, decide_eq_true hl]; simp
theorem cmpBat_q (a b : ByteArray) (a1 a2 b1 b2 : Value) (aa ba : ByteArray) (asi ast bsi bst : Int) (wr : World) (r : Int) (hr : cmpI ast bst = r) (d : Nat) (os : Array Obj) : Calls Tryz.prog 73 #[.agg #[.string a, a1, a2, .string aa, .int .i64 asi, .int .i64 ast], .agg #[.string b, b1, b2, .string ba, .int .i64 bsi, .int .i64 bst]] (grow (redrawn wr d) os) fun e w'' => e = .returned (.int .i64 r) ∧ ∃ p : Regrown, w'' = grow (redrawn wr p.d) p.os :=
  Calls.regrown_of (by
    subst hr
    go_enter Tryz.func73, Tryz.ntmps73
    go_wp2_with (go_at_call 108; refine (cmpN_any _ _ _).mono ?_; rintro e w1 ⟨rfl, rfl⟩)
    go_ret
    exact ⟨rfl, ((Below.refl _ _).alloc (Nat.le_refl _) _).alloc (by simp) _⟩)
set_option maxRecDepth 100000 in
set_option maxHeartbeats 8000000 in
theorem ascRB_any (S : Nat → Prop) (Ba : List DRunBatch) (oa : Option Addr) (n cap : Nat) (w : World) (h : AtL S w Ba (.slice oa n cap)) (hS : ∀ b, S b → b < w.heap.size) :
    Calls Tryz.prog 109 #[.slice oa n cap, .func (.func 73) #[] #[]] w fun e w' => e = .returned (.bool (srR Ba)) ∧ Below w.heap.size w w' := by
  have en : Ba.length = n := by obtain ⟨_, _, e, _⟩ := h; cases e; rfl
  have hmx : n ≤ 9223372036854775807 := by obtain ⟨_, _, e, hf, _⟩ := id h; cases e; have := hf.1; unfold maxLen at this; omega
  have EN : Hid (Ba.length ≤ n ∧ n ≤ Ba.length) := ⟨by omega, by omega⟩
  have ROW : Hid (∀ i (hi : i < Ba.length), ∃ (b off : Nat) (o1 o2 : Option Addr) (n1 k1 n2 k2 : Nat), oa = some ⟨b, off, none⟩ ∧ b < w.heap.size ∧ w.cell? ⟨b, off + i * 6, none⟩ = some (.string Ba[i].1) ∧ w.cell? ⟨b, off + i * 6 + 1, none⟩ = some (.slice o1 n1 k1) ∧ w.cell? ⟨b, off + i * 6 + 2, none⟩ = some (.slice o2 n2 k2) ∧ w.cell? ⟨b, off + i * 6 + 3, none⟩ = some (.string Ba[i].2.2.2.1) ∧ w.cell? ⟨b, off + i * 6 + 4, none⟩ = some (.int .i64 Ba[i].2.2.2.2.1) ∧ w.cell? ⟨b, off + i * 6 + 5, none⟩ = some (.int .i64 Ba[i].2.2.2.2.2)) := fun i hi => by
    obtain ⟨b, off, o1, o2, n1, k1, n2, k2, e, hb, c0, c1, c2, c3, c4, c5, _⟩ := rb_at h i hi
    exact ⟨b, off, o1, o2, n1, k1, n2, k2, e, hS b hb, c0, c1, c2, c3, c4, c5⟩
  clear h hS en
  go_enter Tryz.func109, Tryz.ntmps109
  go_wp2_with fail
  go_loopw [5] (fun i wr => ∃ k : Nat, i = .int .i64 ((k : Int) + 1) ∧ (k + 1 ≤ n ∨ k = 0) ∧ Hid (∀ i (hi : i < Ba.length) m (hm : m < Ba.length), i = m + 1 → i < k + 1 → Ba[m].2.2.2.2.2 < Ba[i].2.2.2.2.2) ∧ Hid (Below w.heap.size w wr)) (fun i _ => n - (intOf i).toNat)
  case atStart => exact ⟨0, rfl, Or.inr rfl, fun i hi m hm e h => by omega, Below.refl _ _⟩
  case round =>
    obtain ⟨k, rfl, hk, hall, hbel⟩ := hrel
    have hs := hbel.out.size
    by_cases hlt : k + 1 < n
    case neg =>
      go_wp2_with fail
      go_ret
      rw [srR_yes fun i hi m hm e => hall.out i hi m hm e (by have := EN.out; omega)]
      exact ⟨rfl, hbel.out⟩
    clear hk
    have h1 : k + 1 < Ba.length := by have := EN.out; omega
    have h0 : k < Ba.length := by omega
    obtain ⟨b, off, o1, o2, n1, k1, n2, k2, rfl, hbw, c0, c1, c2, c3, c4, c5⟩ := ROW.out (k + 1) h1
    obtain ⟨_, _, p1, p2, m1, l1, m2, l2, eo, _, d0, d1, d2, d3, d4, d5⟩ := ROW.out k h0
    cases eo
    obtain ⟨f, ef⟩ : ∃ f, Ba[k + 1] = f := ⟨_, rfl⟩
    obtain ⟨g, eg⟩ : ∃ g, Ba[k] = g := ⟨_, rfl⟩
    rw [ef] at c0 c3 c4 c5
    rw [eg] at d0 d3 d4 d5
    obtain ⟨nm, r, sl, at_, si, st⟩ := f
    obtain ⟨pn, pr, psl, pat, psi, pst⟩ := g
    simp only at c0 c3 c4 c5 d0 d3 d4 d5
    have EF : Hid (Ba[k + 1].2.2.2.2.2 = st ∧ Ba[k].2.2.2.2.2 = pst) := ⟨by rw [ef], by rw [eg]⟩
    have q0 := fun d os => cell_regrown ((hbel.out.cell (p := ⟨b, off + (k + 1) * 6, none⟩) hbw).trans c0) d os
    have r0 := fun d os => cell_regrown ((hbel.out.cell (p := ⟨b, off + k * 6, none⟩) hbw).trans d0) d os
    have q1 := fun d os => cell_regrown ((hbel.out.cell (p := ⟨b, off + (k + 1) * 6 + 1, none⟩) hbw).trans c1) d os
    have r1 := fun d os => cell_regrown ((hbel.out.cell (p := ⟨b, off + k * 6 + 1, none⟩) hbw).trans d1) d os
    have q2 := fun d os => cell_regrown ((hbel.out.cell (p := ⟨b, off + (k + 1) * 6 + 2, none⟩) hbw).trans c2) d os
    have r2 := fun d os => cell_regrown ((hbel.out.cell (p := ⟨b, off + k * 6 + 2, none⟩) hbw).trans d2) d os
    have q3 := fun d os => cell_regrown ((hbel.out.cell (p := ⟨b, off + (k + 1) * 6 + 3, none⟩) hbw).trans c3) d os
    have r3 := fun d os => cell_regrown ((hbel.out.cell (p := ⟨b, off + k * 6 + 3, none⟩) hbw).trans d3) d os
    have q4 := fun d os => cell_regrown ((hbel.out.cell (p := ⟨b, off + (k + 1) * 6 + 4, none⟩) hbw).trans c4) d os
    have r4 := fun d os => cell_regrown ((hbel.out.cell (p := ⟨b, off + k * 6 + 4, none⟩) hbw).trans d4) d os
    have q5 := fun d os => cell_regrown ((hbel.out.cell (p := ⟨b, off + (k + 1) * 6 + 5, none⟩) hbw).trans c5) d os
    have r5 := fun d os => cell_regrown ((hbel.out.cell (p := ⟨b, off + k * 6 + 5, none⟩) hbw).trans d5) d os
    clear c0 c1 c2 c3 c4 c5 d0 d1 d2 d3 d4 d5 ef eg
    obtain ⟨v, hv⟩ : ∃ v, cmpI pst st = v := ⟨_, rfl⟩
    by_cases hlt2 : pst < st
    · have dv : decide (0 ≤ v) = false := by rw [← hv, cmpI_ge, decide_eq_true hlt2]; rfl
      have HP : Hid (Ba[k].2.2.2.2.2 < Ba[k + 1].2.2.2.2.2) := by rw [EF.out.1, EF.out.2]; exact hlt2
      go_wp2_with fail
      refine wp_region_quiet_below (by kernel_rfl) (by kernel_rfl) ?_
      repeat (first | go_big_quiet_step (first | (with_reducible exact cmpBat_q _ _ _ _ _ _ _ _ _ _ _ _ _ _ hv _ _)) | quiet_step (first | (with_reducible exact cmpBat_q _ _ _ _ _ _ _ _ _ _ _ _ _ _ hv _ _)))
      refine wpQuiet_nil ?_
      intro _ hw'
      obtain ⟨⟨dq, osq⟩, hw''⟩ := hw'
      subst hw''
      go_wp2_with fail
      go_roundw
      case rel => exact ⟨k + 1, by go_num, Or.inl (by omega), fun i hi m hm e h => by
        by_cases e2 : m = k
        · subst e2; subst e; exact HP.out
        · exact hall.out i hi m hm e (by omega), hbel.out.trans ((below_regrown wr dq osq).mono hs)⟩
      case measure => simp [intOf]; omega
    · have dv : decide (0 ≤ v) = true := by rw [← hv, cmpI_ge, decide_eq_false hlt2]; rfl
      have HP : Hid (¬ SrR Ba) := fun h => by
        have := h (k + 1) h1 k h0 rfl
        rw [EF.out.1, EF.out.2] at this
        exact hlt2 this
      go_wp2_with fail
      refine wp_region_quiet_below (by kernel_rfl) (by kernel_rfl) ?_
      repeat (first | go_big_quiet_step (first | (with_reducible exact cmpBat_q _ _ _ _ _ _ _ _ _ _ _ _ _ _ hv _ _)) | quiet_step (first | (with_reducible exact cmpBat_q _ _ _ _ _ _ _ _ _ _ _ _ _ _ hv _ _)))
      refine wpQuiet_nil ?_
      intro _ hw'
      obtain ⟨⟨dq, osq⟩, hw''⟩ := hw'
      subst hw''
      go_wp2_with fail
      go_ret
      rw [srR_no HP.out]
      exact ⟨rfl, hbel.out.trans ((below_regrown wr dq osq).mono hs)⟩
set_option maxRecDepth 100000 in
set_option maxHeartbeats 8000000 in
theorem batOne_any (S : Nat → Prop) (last : Int) (nm : ByteArray) (r : List DRecPhase) (sl : List DRunSlot) (at_ : ByteArray) (si st : Int) (o1 o2 : Option Addr) (n1 k1 n2 k2 hb : Nat) (w : World) (hn : nm.size ≤ maxLen) (hr : AtL S w r (.slice o1 n1 k1)) (h : AtL S w sl (.slice o2 n2 k2)) (hS : ∀ b, S b → b < w.heap.size) (tr : totL r ≤ 1048576) (ts : totL sl ≤ 1048576) (hx : w.cell? ⟨hb, 1, none⟩ = some (.int .i64 last)) (hlt : hb < w.heap.size) :
    Calls Tryz.prog 74 #[.agg #[.string nm, .slice o1 n1 k1, .slice o2 n2 k2, .string at_, .int .i64 si, .int .i64 st], .pointer (some ⟨hb, 0, none⟩)] w fun e w' => e = .returned (.bool (on1 last (nm, r, sl, at_, si, st))) ∧ Below w.heap.size w w' := by
  obtain ⟨W, EW, BW, RW, sW⟩ := box_new w #[.string nm, .slice o1 n1 k1, .slice o2 n2 k2, .string at_, .int .i64 si, .int .i64 st] 49
  have C : Hid _ := runI_any S nm r sl at_ si st o1 o2 n1 k1 n2 k2 W hn (hr.same (Same.of_below BW.out hS)) (h.same (Same.of_below BW.out hS)) (fun b hb => Nat.lt_of_lt_of_le (hS b hb) BW.out.size) tr ts
  clear hr h hS tr ts hn
  obtain ⟨V, hV⟩ : ∃ V, V = on1 last (nm, r, sl, at_, si, st) := ⟨_, rfl⟩
  have ER : Hid (∀ R : Bool, runB (nm, r, sl, at_, si, st) = R → V = (R && decide (st ≤ last))) := fun R h => by rw [hV, ← h]; rfl
  rw [← hV]
  clear hV
  have Y : Hid (∀ u, Below W.heap.size W u → Below w.heap.size w u ∧ (u.cell? ⟨w.heap.size, 5, none⟩ = some (.int .i64 st)) ∧ u.cell? ⟨hb, 1, none⟩ = some (.int .i64 last)) := fun u hu => by
    have B : Below w.heap.size w u := BW.out.trans (hu.mono (by omega))
    exact ⟨B, (cell_row ((hu.block _ (by omega)).trans RW.out) 5 _ rfl).1, (B.cell (p := ⟨hb, 1, none⟩) hlt).trans hx⟩
  have y := fun i v h => (cell_row RW.out i v h).1
  have x0 := y 0 _ rfl
  have x1 := y 1 _ rfl
  have x2 := y 2 _ rfl
  have x3 := y 3 _ rfl
  have x4 := y 4 _ rfl
  have x5 := y 5 _ rfl
  clear y hx
  go_enter Tryz.func74, Tryz.ntmps74
  go_upto_region 1 with fail
  rw [← EW.out]
  go_wp2_with fail
  refine Calls.mono C.out ?_; rintro e w1 ⟨rfl, hb1⟩
  obtain ⟨B1', y5, yh⟩ := Y.out w1 hb1
  have B1 : Hid _ := B1'
  clear x0 x1 x2 x3 x4 x5 hb1 B1' C
  cases c : runB (nm, r, sl, at_, si, st)
  · have er : Hid (V = false) := by show _ = _; rw [ER.out _ c]; rfl
    go_wp2_with fail
    go_ret
    rw [er.out]
    exact ⟨rfl, B1.out⟩
  · have er : Hid (V = decide (st ≤ last)) := by show _ = _; rw [ER.out _ c]; rfl
    go_wp2_with fail
    go_ret
    rw [er.out]
    exact ⟨rfl, B1.out⟩
set_option maxRecDepth 100000 in
set_option maxHeartbeats 8000000 in
theorem listRB_any (S : Nat → Prop) (last : Int) (Ba : List DRunBatch) (oa : Option Addr) (n cap hb : Nat) (w : World) (h : AtL S w Ba (.slice oa n cap)) (hS : ∀ b, S b → b < w.heap.size) (hT : ∀ i (hi : i < Ba.length), totL Ba[i].2.1 ≤ 1048576 ∧ totL Ba[i].2.2.1 ≤ 1048576) (hx : w.cell? ⟨hb, 1, none⟩ = some (.int .i64 last)) (hlt' : hb < w.heap.size) :
    Calls Tryz.prog 72 #[.slice oa n cap, .int .i64 5, .func (.func 73) #[] #[], .func (.func 74) #[] #[.pointer (some ⟨hb, 0, none⟩)]] w fun e w' => e = .returned (.bool (basB last Ba)) ∧ Below w.heap.size w w' := by
  have en : Ba.length = n := by obtain ⟨_, _, e, _⟩ := h; cases e; rfl
  have hmx : n ≤ 9223372036854775807 := by obtain ⟨_, _, e, hf, _⟩ := id h; cases e; have := hf.1; unfold maxLen at this; omega
  have EN : Hid (Ba.length ≤ n ∧ n ≤ Ba.length) := ⟨by omega, by omega⟩
  have H : Hid _ := h.ups hS
  have HS : Hid _ := lt_up hS
  have HT : Hid _ := hT
  have HX : Hid (∀ u, Below w.heap.size w u → u.cell? ⟨hb, 1, none⟩ = some (.int .i64 last)) := fun u hu => (hu.cell (p := ⟨hb, 1, none⟩) hlt').trans hx
  obtain ⟨V, hV⟩ : ∃ V, V = basB last Ba := ⟨_, rfl⟩
  have LONG : Hid (¬ n ≤ 5 → V = false) := fun hn => by rw [hV]; exact bas_long (by omega)
  have ONE : Hid (∀ i (hi : i < Ba.length), on1 last Ba[i] = false → V = false) := fun i hi h => by rw [hV]; exact bas_one hi h
  have ALL : Hid (n ≤ 5 → (∀ i (hi : i < Ba.length), on1 last Ba[i] = true) → V = srR Ba) := fun hn h => by rw [hV]; exact bas_all (by omega) h
  rw [← hV]
  clear h hS hT hx en hV
  go_enter Tryz.func72, Tryz.ntmps72
  by_cases hl : n ≤ 5
  case neg =>
    have d0 : decide ((5 : Int) < (n : Int)) = true := decide_eq_true (by omega)
    go_wp2_with fail
    go_ret
    rw [LONG.out hl]
    exact ⟨rfl, Below.refl _ _⟩
  have d0 : decide ((5 : Int) < (n : Int)) = false := decide_eq_false (by omega)
  go_wp2_with fail
  clear d0
  go_loopw [17] (fun i wr => ∃ k : Nat, k ≤ n ∧ i = .int .i64 k ∧ Hid (∀ j (hj : j < Ba.length), j < k → on1 last Ba[j] = true) ∧ Hid (Below w.heap.size w wr)) (fun i _ => n - (intOf i).toNat)
  case atStart => exact ⟨0, Nat.zero_le _, rfl, fun _ _ h => by omega, Below.refl _ _⟩
  case round =>
    obtain ⟨k, hk, rfl, hall, hbel⟩ := hrel
    have hs := hbel.out.size
    by_cases hlt : k < n
    case neg =>
      have AV : Hid (V = srR Ba) := ALL.out hl (fun i hi => hall.out i hi (by have := EN.out; omega))
      have C : Hid _ := ascRB_any S Ba oa n cap wr (H.out wr hbel.out) (HS.out wr hbel.out)
      go_wp2_with fail
      refine Calls.mono C.out ?_; rintro e w1 ⟨rfl, hb1⟩
      have B1 : Hid (Below w.heap.size w w1) := hbel.out.trans (hb1.mono hs)
      rw [← AV.out]
      clear hb1 C
      go_wp2_with fail
      go_ret
      exact ⟨rfl, B1.out⟩
    have hks : k < Ba.length := by have := EN.out; omega
    obtain ⟨b, off, o1, o2, n1, k1, n2, k2, rfl, hbS, c0, c1, c2, c3, c4, c5, z0, hr, hsl⟩ := rb_at (H.out wr hbel.out) k hks
    obtain ⟨f, ef⟩ : ∃ f, Ba[k] = f := ⟨_, rfl⟩
    have T2 := HT.out k hks
    rw [ef] at c0 c3 c4 c5 z0 hr hsl T2
    obtain ⟨nm, r, sl, at_, si, st⟩ := f
    simp only at c0 c3 c4 c5 z0 hr hsl T2
    have EF : Hid (Ba[k] = (nm, r, sl, at_, si, st)) := ef
    have FX : Hid (AtL S wr r (.slice o1 n1 k1) ∧ AtL S wr sl (.slice o2 n2 k2) ∧ nm.size ≤ maxLen ∧ totL r ≤ 1048576 ∧ totL sl ≤ 1048576) := ⟨hr, hsl, z0, T2.1, T2.2⟩
    have HSR : Hid _ := HS.out wr hbel.out
    have BXX : Hid (∀ o, Below w.heap.size w (wr.alloc o)) := fun o => hbel.out.alloc hs o
    have CW : Hid (∀ W', Below wr.heap.size wr W' → Calls Tryz.prog 74 #[.agg #[.string nm, .slice o1 n1 k1, .slice o2 n2 k2, .string at_, .int .i64 si, .int .i64 st], .pointer (some ⟨hb, 0, none⟩)] W' fun e w' => e = .returned (.bool (on1 last (nm, r, sl, at_, si, st))) ∧ Below W'.heap.size W' w') := fun W' hW' =>
      batOne_any S last nm r sl at_ si st o1 o2 n1 k1 n2 k2 hb W' FX.out.2.2.1 (FX.out.1.same (Same.of_below hW' HSR.out)) (FX.out.2.1.same (Same.of_below hW' HSR.out)) (fun b hb => Nat.lt_of_lt_of_le (HSR.out b hb) hW'.size) FX.out.2.2.2.1 FX.out.2.2.2.2 (HX.out W' (hbel.out.trans (hW'.mono hs))) (by have := hW'.size; omega)
    clear z0 hr hsl T2 ef
    cases c : on1 last (nm, r, sl, at_, si, st)
    · have AV : Hid (V = false) := ONE.out k hks (by rw [EF.out]; exact c)
      go_wp2_with fail
      refine Calls.mono (CW.out _ ((Below.refl _ _).alloc (Nat.le_refl _) _)) ?_; rintro e w1 ⟨rfl, hb1⟩
      rw [c]
      have B1 : Hid (Below w.heap.size w w1) := (BXX.out _).trans (hb1.mono (BXX.out _).size)
      clear hb1
      go_wp2_with fail
      go_ret
      rw [AV.out]
      exact ⟨rfl, B1.out⟩
    · have HP : Hid (on1 last Ba[k] = true) := by show _ = _; rw [EF.out]; exact c
      go_wp2_with fail
      refine Calls.mono (CW.out _ ((Below.refl _ _).alloc (Nat.le_refl _) _)) ?_; rintro e w1 ⟨rfl, hb1⟩
      rw [c]
      have B1 : Hid (Below w.heap.size w w1) := (BXX.out _).trans (hb1.mono (BXX.out _).size)
      clear hb1
      go_wp2_with fail
      go_roundw
      case rel => exact ⟨k + 1, by omega, by go_num, fun j hj hjk => by
        by_cases e : j = k
        · subst e; exact HP.out
        · exact hall.out j hj (by omega), B1.out⟩
      case measure => simp [intOf]; omega
set_option maxRecDepth 100000 in
set_option maxHeartbeats 8000000 in
theorem batchesP_any (S : Nat → Prop) (now last : Int) (o2 o3 o4 o5 : Option Addr) (n2 k2 n3 k3 n4 k4 n5 k5 : Nat) (Ba : List DRunBatch) (w : World) (h : AtL S w Ba (.slice o4 n4 k4)) (hS : ∀ b, S b → b < w.heap.size) (hT : ∀ i (hi : i < Ba.length), totL Ba[i].2.1 ≤ 1048576 ∧ totL Ba[i].2.2.1 ≤ 1048576) :
    Calls Tryz.prog 42 #[.agg #[.int .i64 now, .int .i64 last, .slice o2 n2 k2, .slice o3 n3 k3, .slice o4 n4 k4, .slice o5 n5 k5]] w fun e w' => e = .returned (.bool (basB last Ba)) ∧ Below w.heap.size w w' := by
  have hmf : ∀ (fn : Fn) (first cap : Array Value) (w : World), (Instr.makeFunc fn first cap).run Tryz.prog w = .ok (.func fn first cap) w := fun _ _ _ _ => rfl
  obtain ⟨W, EW, BW, RW, sW⟩ := box_new w #[.int .i64 now, .int .i64 last, .slice o2 n2 k2, .slice o3 n3 k3, .slice o4 n4 k4, .slice o5 n5 k5] 38
  have BOX : Hid (∀ u, Below W.heap.size W u → u.heap[w.heap.size]? = some (.cells #[.int .i64 now, .int .i64 last, .slice o2 n2 k2, .slice o3 n3 k3, .slice o4 n4 k4, .slice o5 n5 k5] 38 (0, 0)) ∧ Below w.heap.size w u) := fun u hu => ⟨(hu.block _ (by omega)).trans RW.out, BW.out.trans (hu.mono (by omega))⟩
  have y4 := (cell_row RW.out 4 _ rfl).1
  have C : Hid _ := listRB_any S last Ba o4 n4 k4 w.heap.size W (h.same (Same.of_below BW.out hS)) (fun b hb => Nat.lt_of_lt_of_le (hS b hb) BW.out.size) hT (cell_row RW.out 1 _ rfl).1 (by omega)
  clear h hS hT
  go_enter Tryz.func42, Tryz.ntmps42
  go_upto_region 1 with fail
  rw [← EW.out]
  go_wp2_with fail
  refine Calls.mono C.out ?_; rintro e w1 ⟨rfl, hb1⟩
  have HB : Hid (Below w.heap.size w w1) := BW.out.trans (hb1.mono BW.out.size)
  clear hb1 C
  go_wp2_with fail
  go_ret
  exact ⟨rfl, HB.out⟩
end Go.Proofs.YtobchllaopdchacGreat

namespace Go.Proofs.YtobchllaopdchacGreat
open Go.RowKit
def byL (b : ByteArray) : List UInt8 := b.data.toList
def unL (l : List UInt8) : ByteArray := ⟨l.toArray⟩
theorem un_by (b : ByteArray) : unL (byL b) = b := rfl
theorem by_un (l : List UInt8) : byL (unL l) = l := by simp [byL, unL]
def sortL (L : List ByteArray) : List ByteArray := ((L.map byL).mergeSort fun x y => decide (x ≤ y)).map unL
theorem sort_len (L : List ByteArray) : (sortL L).length = L.length := by simp [sortL]
theorem sort_mem (L : List ByteArray) (y : ByteArray) : y ∈ sortL L ↔ y ∈ L := by
  unfold sortL
  rw [List.mem_map]
  constructor
  · rintro ⟨l, hl, rfl⟩
    obtain ⟨b, hb, rfl⟩ := List.mem_map.1 ((List.mergeSort_perm _ _).mem_iff.1 hl)
    rw [un_by]; exact hb
  · intro hy
    exact ⟨byL y, (List.mergeSort_perm _ _).mem_iff.2 (List.mem_map.2 ⟨y, hy, rfl⟩), un_by y⟩
theorem sort_perm (L : List ByteArray) : (sortL L).Perm L := by
  have h := (List.mergeSort_perm (L.map byL) fun x y => decide (x ≤ y)).map unL
  rw [List.map_map] at h
  have e : L.map (unL ∘ byL) = L := by
    rw [show unL ∘ byL = id from rfl, List.map_id]
  rw [e] at h
  exact h
theorem sort_asc {L : List ByteArray} (h : L.Nodup) : AscL (sortL L) := by
  have h1 : ((L.map byL).mergeSort fun x y => decide (x ≤ y)).Pairwise fun a b => decide (a ≤ b) = true :=
    List.pairwise_mergeSort (fun a b c h1 h2 => by simp at *; exact List.le_trans h1 h2) (fun a b => by simp; exact List.le_total a b) _
  have h2 : ((L.map byL).mergeSort fun x y => decide (x ≤ y)).Nodup := (List.mergeSort_perm _ _).nodup_iff.2 (by
    refine List.pairwise_map.2 (h.imp fun {a b} hab e => hab ?_)
    rw [← un_by a, ← un_by b, e])
  unfold AscL sortL
  refine List.pairwise_map.2 ((h1.and h2).imp fun {a b} hab => ?_)
  rw [ltB_iff, ByteArray.toList_eq, ByteArray.toList_eq]
  show byL (unL a) < byL (unL b)
  rw [by_un, by_un]
  rcases List.le_iff_lt_or_eq.1 (of_decide_eq_true hab.1) with h | h
  · exact h
  · exact absurd h hab.2
open Go.Sort in
theorem sort_any (base : Nat) (v : Value) (L : List ByteArray) (w : World) (h : w.ownsRow base 9 1 v L.length (L.map .string)) (hl : L.length ≤ 1048576) (hbase : base ≤ w.heap.size) :
    Calls Tryz.prog 78 #[v] w fun e w' => e = .returned (.tuple #[]) ∧ w'.ownsRow base 9 1 v (sortL L).length ((sortL L).map .string) ∧ Below base w w' := by
  by_cases hne : 0 < L.length
  case neg =>
    obtain rfl : L = [] := List.eq_nil_of_length_eq_zero (by omega)
    rcases h.2 with ⟨rfl, _⟩ | ⟨g, cap, cur, rfl, hb, hg, hc, hm', hs, ht⟩
    all_goals
      refine (Tryz.slices_Sort_string_none _ _ w).mono ?_
      rintro e w' ⟨rfl, rfl⟩
      exact ⟨rfl, by simpa [sortL] using h, Below.refl _ _⟩
  rcases h.2 with ⟨_, e⟩ | ⟨g, cap, cur, rfl, hb, hg, hc, hm', hs, ht⟩
  · omega
  · have hss : (L.map byL).length = L.length := by simp
    have henc : L.map Value.string = (L.map byL).map encStr := by
      rw [List.map_map]
      apply List.map_congr_left
      intro b _
      rfl
    have hH : Sort.Holds encStr w g 0 (L.map byL).toArray := holds_of_block hg (by rw [hss, ← henc, ← ht, Nat.mul_one])
    have C := Tryz.slices_Sort_string g 0 cap (L.map byL) w hH (Array.getElem?_eq_some_iff.1 hg).1 (by rw [hss]; omega)
    rw [hss] at C
    refine C.mono ?_
    rintro e w' ⟨rfl, n, os, rfl⟩
    refine ⟨rfl, ?_, ?_⟩
    · have := ownsRow_sorted (w := w) (base := base) (g := g) (cap := cap) (n := n) (e := 9) (os := os) (cur := cur) (ss := L.map byL) (ts := (L.map byL).mergeSort fun x y => decide (x ≤ y)) (by simp) hb hg (by rw [hss]; exact hc) hm' hs
      rw [hss] at this
      have e1 : ((L.map byL).mergeSort fun x y => decide (x ≤ y)).map encStr = (sortL L).map Value.string := by
        unfold sortL
        rw [List.map_map]
        rfl
      rw [e1] at this
      rw [sort_len]; exact this
    · exact (Below.refl base w).grown (grownBy_sorted _) hbase (fun q hq => by cases hq; exact hb)
theorem encS_map : ∀ L : List ByteArray, enc 1 eS L = L.map Value.string
  | [] => rfl
  | a :: l => by rw [enc_cons, encS_map l]; rfl
theorem sortR_any (base : Nat) (v : Value) (L : List ByteArray) (w : World) (h : Row w base 9 1 eS v L) (hl : L.length ≤ 1048576) (hbase : base ≤ w.heap.size) :
    Calls Tryz.prog 78 #[v] w fun e w' => e = .returned (.tuple #[]) ∧ Row w' base 9 1 eS v (sortL L) ∧ Below base w w' := by
  have h' : w.ownsRow base 9 1 v L.length (L.map .string) := by have := h; unfold Row at this; rw [encS_map] at this; exact this
  refine (sort_any base v L w h' hl hbase).mono ?_
  rintro e w' ⟨he, hr, hb⟩
  exact ⟨he, by unfold Row; rw [encS_map]; exact hr, hb⟩
end Go.Proofs.YtobchllaopdchacGreat
