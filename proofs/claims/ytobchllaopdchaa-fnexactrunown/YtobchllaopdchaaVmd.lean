import Derived.Test.YtobchllaopdchaaM19
namespace Go.Proofs.Ytobchllaopdchaa
open Go.RowKit Go.Sort
theorem inX_q (n lo hi : Int) (wr : World) (r : Bool) (hr : inB n lo hi = r) (d : Nat) (os : Array Obj) : Calls Try.prog 36 #[.int .i64 n, .int .i64 lo, .int .i64 hi] (grow (redrawn wr d) os) fun e w'' => e = .returned (.bool r) ∧ ∃ p : Regrown, w'' = grow (redrawn wr p.d) p.os :=
  Calls.regrown_of ((inX_any n lo hi _).mono fun _ _ ⟨he, hw⟩ => ⟨by subst hr; exact he, by subst hw; exact Below.refl _ _⟩)
def wiX (r : List DRecPhase) (x : ByteArray) : Int := (phX r x).2.2.2.2.2.1
noncomputable def runB (b : DRunBatch) : Bool :=
  nameB b.1 && recB b.2.1 && slB b.2.1 b.2.2.1 && decide (1 ≤ b.2.2.2.2.2) && decide (0 ≤ atI b.2.1 b.2.2.2.1) && inB b.2.2.2.2.1 (-1) (wiX b.2.1 b.2.2.2.1 - 1)
set_option maxRecDepth 100000 in
set_option maxHeartbeats 8000000 in
theorem runX_any (S : Nat → Prop) (nm : ByteArray) (r : List DRecPhase) (sl : List DRunSlot) (at_ : ByteArray) (si st : Int) (o1 o2 : Option Addr) (n1 k1 n2 k2 : Nat) (w : World) (hn : nm.size ≤ maxLen) (hr : AtL S w r (.slice o1 n1 k1)) (h : AtL S w sl (.slice o2 n2 k2)) (hS : ∀ b, S b → b < w.heap.size) :
    Calls Try.prog 15 #[.agg #[.string nm, .slice o1 n1 k1, .slice o2 n2 k2, .string at_, .int .i64 si, .int .i64 st]] w fun e w' => e = .returned (.bool (runB (nm, r, sl, at_, si, st))) ∧ Below w.heap.size w w' := by
  have HN : Hid (nm.size ≤ maxLen) := hn
  obtain ⟨W, EW, BW, RW, sW⟩ := box_new w #[.string nm, .slice o1 n1 k1, .slice o2 n2 k2, .string at_, .int .i64 si, .int .i64 st] 32
  have BOX : Hid (∀ u, Below W.heap.size W u → u.heap[w.heap.size]? = some (.cells #[.string nm, .slice o1 n1 k1, .slice o2 n2 k2, .string at_, .int .i64 si, .int .i64 st] 32 (0, 0)) ∧ Below w.heap.size w u) := fun u hu => ⟨(hu.block _ (by omega)).trans RW.out, BW.out.trans (hu.mono (by omega))⟩
  have HR : Hid _ := hr.ups hS
  have HA : Hid _ := h.ups hS
  have HS : Hid _ := lt_up hS
  have PH : Hid (∀ k : Nat, atI r at_ = (k : Int) → k < n1 ∧ ∃ b off, o1 = some ⟨b, off, none⟩ ∧ b < w.heap.size ∧ w.cell? ⟨b, off + k * 8 + 5, none⟩ = some (.int .i64 (wiX r at_)) ∧ -9223372036854775808 ≤ wiX r at_ ∧ wiX r at_ ≤ 9223372036854775807) := fun k hk => by
    rcases at_cases r at_ with e | ⟨k', hk', e, _⟩
    · omega
    obtain rfl : k' = k := by omega
    obtain ⟨oa, cap, ev, _, hc⟩ := id hr
    obtain ⟨b, off, eo, hbS, cc, hcell, hat⟩ := hc k' hk'
    rw [width_DRecPhase] at hcell
    rw [at_DRecPhase] at hat
    have ew : wiX r at_ = r[k'].2.2.2.2.2.1 := by unfold wiX; rw [ph_at hk' e]
    cases ev
    refine ⟨hk', b, off, eo, hS b hbS, (hcell 5 (by omega)).trans (by rw [hat.2.2.2.2.2.1.1, ew]), ?_⟩
    rw [ew]
    exact hat.2.2.2.2.2.1.2
  have POS : Hid (recB r = true → 0 ≤ atI r at_ → 1 ≤ wiX r at_) := fun hrb h0 => by
    rcases at_cases r at_ with e | ⟨k', hk', e, _⟩
    · omega
    · have := (ph_name (step_of (rec_iff.1 hrb) hk').1).2.2.1
      have ew : wiX r at_ = r[k'].2.2.2.2.2.1 := by unfold wiX; rw [ph_at hk' e]
      rw [ew]
      omega
  clear h hr hS hn
  obtain ⟨R, hR⟩ : ∃ R, R = runB (nm, r, sl, at_, si, st) := ⟨_, rfl⟩
  have ER : Hid (R = (nameB nm && recB r && slB r sl && decide (1 ≤ st) && decide (0 ≤ atI r at_) && inB si (-1) (wiX r at_ - 1))) := hR
  rw [← hR]
  clear hR
  have h0 := fun u (hu : Below W.heap.size W u) => cell_row (BOX.out u hu).1
  have Y : Hid (∀ u, Below W.heap.size W u → u.cell? ⟨w.heap.size, 0, none⟩ = some (.string nm) ∧ u.cell? ⟨w.heap.size, 1, none⟩ = some (.slice o1 n1 k1) ∧ u.cell? ⟨w.heap.size, 2, none⟩ = some (.slice o2 n2 k2) ∧ u.cell? ⟨w.heap.size, 3, none⟩ = some (.string at_) ∧ u.cell? ⟨w.heap.size, 4, none⟩ = some (.int .i64 si) ∧ u.cell? ⟨w.heap.size, 5, none⟩ = some (.int .i64 st)) := fun u hu =>
    ⟨(h0 u hu 0 _ rfl).1, (h0 u hu 1 _ rfl).1, (h0 u hu 2 _ rfl).1, (h0 u hu 3 _ rfl).1, (h0 u hu 4 _ rfl).1, (h0 u hu 5 _ rfl).1⟩
  clear h0
  obtain ⟨y0, y1, y2, y3, y4, y5⟩ := Y.out W (Below.refl _ _)
  go_enter Try.func15, Try.ntmps15
  go_upto_region 1 with fail
  rw [← EW.out]
  go_wp2_with fail
  refine (nameX_any nm _ HN.out).mono ?_; rintro e w1 ⟨rfl, rfl⟩
  cases c0 : nameB nm
  · have er : R = false := by rw [ER.out, c0]; simp
    clear y1 y2 y3 y4 y5
    go_wp2_with fail
    go_ret
    rw [er]
    exact ⟨rfl, BW.out⟩
  have BWW := BW.out
  go_wp2_with fail
  refine (okX_any S r _ w1 (HR.out _ BW.out) (HS.out _ BW.out)).mono ?_; rintro e w2 ⟨rfl, hb2⟩
  have B2 : Hid (Below w1.heap.size w1 w2) := hb2
  clear y0 y1 y2 y3 y4 y5 hb2
  obtain ⟨y0, y1, y2, y3, y4, y5⟩ := Y.out w2 B2.out
  cases c1 : recB r
  · have er : R = false := by rw [ER.out, c1]; simp
    clear y0 y1 y2 y3 y4 y5
    go_wp2_with fail
    go_ret
    rw [er]
    exact ⟨rfl, (BOX.out w2 B2.out).2⟩
  have bw2 := (BOX.out w2 B2.out).2
  have BW2 : Hid (Below w.heap.size w w2) := bw2
  clear bw2 BWW
  go_wp2_with fail
  refine (slotsOkX_any S r sl o1 o2 n1 k1 n2 k2 w2 (HR.out _ BW2.out) (HA.out _ BW2.out) (HS.out _ BW2.out) (rec_iff.1 c1)).mono ?_; rintro e w3 ⟨rfl, hb3⟩
  have B3 : Hid (Below w1.heap.size w1 w3) := B2.out.trans (hb3.mono B2.out.size)
  clear y0 y1 y2 y3 y4 y5 hb3
  obtain ⟨y0, y1, y2, y3, y4, y5⟩ := Y.out w3 B3.out
  have BW3 : Hid (Below w.heap.size w w3) := (BOX.out w3 B3.out).2
  cases c2 : slB r sl
  · have er : R = false := by rw [ER.out, c2]; simp
    clear y0 y1 y2 y3 y4 y5
    go_wp2_with fail
    go_ret
    rw [er]
    exact ⟨rfl, BW3.out⟩
  by_cases c3 : st < 1
  · have er : R = false := by rw [ER.out, decide_eq_false (by omega : ¬ 1 ≤ st)]; simp
    go_wp2_with fail
    go_ret
    rw [er]
    exact ⟨rfl, BW3.out⟩
  have c3' : decide (1 ≤ st) = true := decide_eq_true (by omega)
  go_wp2_with fail
  refine (atX_any S r _ at_ w3 (HR.out _ BW3.out)).mono ?_; rintro e w4 ⟨rfl, rfl⟩
  have P := POS.out c1
  obtain ⟨ex, hex⟩ : ∃ k : Int, k = atI r at_ := ⟨_, rfl⟩
  by_cases c4 : atI r at_ < 0
  · have er : R = false := by rw [ER.out, decide_eq_false (by omega : ¬ 0 ≤ atI r at_)]; simp
    have d4 : decide (0 ≤ ex) = false := decide_eq_false (by omega)
    rw [← hex]
    clear P hex y0 y1 y2 y3 y5
    go_wp2_with fail
    refine wp_region_quiet_below (by kernel_rfl) (by kernel_rfl) ?_
    repeat (first | go_big_quiet_step (fail) | quiet_step (fail))
    refine wpQuiet_nil ?_
    intro _ hw'
    obtain ⟨⟨dq, osq⟩, hw''⟩ := hw'
    subst hw''
    go_wp2_with fail
    go_ret
    rw [er]
    exact ⟨rfl, BW3.out.trans ((below_regrown w4 dq osq).mono BW3.out.size)⟩
  obtain ⟨k, hk⟩ : ∃ k : Nat, atI r at_ = (k : Int) := ⟨(atI r at_).toNat, by omega⟩
  obtain ⟨hkn, b, off, rfl, hb, ce, hl, hh⟩ := PH.out k hk
  have hpos := P (by omega)
  obtain ⟨v, hv⟩ : ∃ v, v = wiX r at_ := ⟨_, rfl⟩
  rw [← hv] at ce hl hh hpos
  have x5 := (BW3.out.cell (p := ⟨b, off + k * 8 + 5, none⟩) hb).trans ce
  have c5 : inB si (-1) (v - 1) = inB si (-1) (v - 1) := rfl
  obtain ⟨I, hI⟩ : ∃ I, inB si (-1) (v - 1) = I := ⟨_, rfl⟩
  have er : R = I := by rw [ER.out, c0, c1, c2, c3', decide_eq_true (by omega : 0 ≤ atI r at_), ← hv, hI]; simp
  have q1 := fun d os => cell_regrown y1 d os
  have q4 := fun d os => cell_regrown y4 d os
  have q5 := fun d os => cell_regrown x5 d os
  rw [hk]
  clear P hex c5 hv x5 ce y0 y1 y2 y3 y4 y5 hk c4
  go_wp2_with fail
  refine wp_region_quiet_below (by kernel_rfl) (by kernel_rfl) ?_
  repeat (first | go_big_quiet_step (with_reducible exact inX_q _ _ _ _ _ hI _ _) | quiet_step (with_reducible exact inX_q _ _ _ _ _ hI _ _))
  refine wpQuiet_nil ?_
  intro _ hw'
  obtain ⟨⟨dq, osq⟩, hw''⟩ := hw'
  subst hw''
  go_wp2_with fail
  go_ret
  rw [er]
  exact ⟨rfl, BW3.out.trans ((below_regrown w4 dq osq).mono BW3.out.size)⟩
theorem run_rec {b : DRunBatch} (h : runB b = true) : RecP b.2.1 ∧ SlP (sltF 12 b.2.1 (fstN b.2.1)) b.2.2.1 := by
  unfold runB at h
  simp only [Bool.and_eq_true] at h
  exact ⟨rec_iff.1 h.1.1.1.1.2, sl_iff.1 h.1.1.1.2⟩
end Go.Proofs.Ytobchllaopdchaa
