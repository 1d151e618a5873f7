import Derived.Test.YtobchllaopdchaaM31
import Derived.Test.YtobchllaopdchaaVmd
import Derived.Test.YtobchllaopdchaaXpa
namespace Go.Proofs.Ytobchllaopdchaa
open Go.RowKit Go.Sort
theorem pace_in {si v : Int} (h : ¬ si = -1) : (decide (0 ≤ si) && decide (si < v)) = inB si (-1) (v - 1) := by
  have e : inB si (-1) (v - 1) = (decide (-1 ≤ si) && decide (si ≤ v - 1)) := by simp [inB]
  rw [e]
  by_cases h1 : 0 ≤ si
  · rw [decide_eq_true h1, decide_eq_true (by omega : -1 ≤ si)]
    simp only [Bool.true_and]
    congr 1
    exact propext ⟨fun _ => by omega, fun _ => by omega⟩
  · rw [decide_eq_false h1, decide_eq_false (by omega : ¬ -1 ≤ si)]
    rfl
theorem pace_q (nm at_ : ByteArray) (si st : Int) (o1 o2 : Option Addr) (n1 k1 n2 k2 : Nat) (wr : World) (d : Nat) (os : Array Obj) : Calls Try.prog 45 #[.agg #[.string nm, .slice o1 n1 k1, .slice o2 n2 k2, .string at_, .int .i64 si, .int .i64 st]] (grow (redrawn wr d) os) fun e w'' => e = .returned (paV si) ∧ ∃ p : Regrown, w'' = grow (redrawn wr p.d) p.os :=
  Calls.regrown_of (pace_any nm at_ si st o1 o2 n1 k1 n2 k2 _)
theorem fitsW_q (wi : Int) (wr : World) (d : Nat) (os : Array Obj) : Calls Try.prog 110 #[.agg #[], .int .i64 wi] (grow (redrawn wr d) os) fun e w'' => e = .returned (.bool true) ∧ ∃ p : Regrown, w'' = grow (redrawn wr p.d) p.os :=
  Calls.regrown_of (fitsW_any wi _)
theorem fitsG_q (si wi : Int) (I : Bool) (hI : (decide (0 ≤ si) && decide (si < wi)) = I) (wr : World) (d : Nat) (os : Array Obj) : Calls Try.prog 111 #[.agg #[.int .i64 si], .int .i64 wi] (grow (redrawn wr d) os) fun e w'' => e = .returned (.bool I) ∧ ∃ p : Regrown, w'' = grow (redrawn wr p.d) p.os :=
  Calls.regrown_of ((fitsG_any si wi _).mono fun _ _ ⟨he, hw⟩ => ⟨by subst hI; exact he, hw⟩)
set_option maxRecDepth 100000 in
set_option maxHeartbeats 8000000 in
theorem runI_any (S : Nat → Prop) (nm : ByteArray) (r : List DRecPhase) (sl : List DRunSlot) (at_ : ByteArray) (si st : Int) (o1 o2 : Option Addr) (n1 k1 n2 k2 : Nat) (w : World) (hn : nm.size ≤ maxLen) (hr : AtL S w r (.slice o1 n1 k1)) (h : AtL S w sl (.slice o2 n2 k2)) (hS : ∀ b, S b → b < w.heap.size) (tr : totL r ≤ 1048576) (ts : totL sl ≤ 1048576) :
    Calls Try.prog 21 #[.agg #[.string nm, .slice o1 n1 k1, .slice o2 n2 k2, .string at_, .int .i64 si, .int .i64 st]] w fun e w' => e = .returned (.bool (runB (nm, r, sl, at_, si, st))) ∧ Below w.heap.size w w' := by
  have hm : ∀ W, (Go.method 258 111 (.agg #[.int .i64 si]) "loop.example/malthouse/impl.fits").run Try.prog W = .ok (111, .agg #[.int .i64 si]) W := fun W => by kernel_rfl
  have hna : ∀ W, (Go.nilAhead 258 111 (.agg #[.int .i64 si]) "loop.example/malthouse/impl.fits").run Try.prog W = .ok (some false) W := fun W => by kernel_rfl
  have hna2 : ∀ W, (Go.nilAhead 258 109 (.agg #[]) "loop.example/malthouse/impl.fits").run Try.prog W = .ok (some false) W := fun W => by kernel_rfl
  have hm2 : ∀ W, (Go.method 258 109 (.agg #[]) "loop.example/malthouse/impl.fits").run Try.prog W = .ok (110, .agg #[]) W := fun W => by kernel_rfl
  have HN : Hid (nm.size ≤ maxLen) := hn
  have TR : Hid (totL r ≤ 1048576) := tr
  have TS : Hid (totL sl ≤ 1048576) := ts
  obtain ⟨W, EW, BW, RW, sW⟩ := box_new w #[.string nm, .slice o1 n1 k1, .slice o2 n2 k2, .string at_, .int .i64 si, .int .i64 st] 32
  have BOX : Hid (∀ u, Below W.heap.size W u → u.heap[w.heap.size]? = some (.cells #[.string nm, .slice o1 n1 k1, .slice o2 n2 k2, .string at_, .int .i64 si, .int .i64 st] 32 (0, 0)) ∧ Below w.heap.size w u) := fun u hu => ⟨(hu.block _ (by omega)).trans RW.out, BW.out.trans (hu.mono (by omega))⟩
  have HR : Hid _ := hr.ups hS
  have HA : Hid _ := h.ups hS
  have HS : Hid _ := lt_up hS
  have h0 := fun u (hu : Below W.heap.size W u) => cell_row (BOX.out u hu).1
  have Y : Hid (∀ u, Below W.heap.size W u → u.cell? ⟨w.heap.size, 0, none⟩ = some (.string nm) ∧ u.cell? ⟨w.heap.size, 1, none⟩ = some (.slice o1 n1 k1) ∧ u.cell? ⟨w.heap.size, 2, none⟩ = some (.slice o2 n2 k2) ∧ u.cell? ⟨w.heap.size, 3, none⟩ = some (.string at_) ∧ u.cell? ⟨w.heap.size, 4, none⟩ = some (.int .i64 si) ∧ u.cell? ⟨w.heap.size, 5, none⟩ = some (.int .i64 st)) := fun u hu =>
    ⟨(h0 u hu 0 _ rfl).1, (h0 u hu 1 _ rfl).1, (h0 u hu 2 _ rfl).1, (h0 u hu 3 _ rfl).1, (h0 u hu 4 _ rfl).1, (h0 u hu 5 _ rfl).1⟩
  clear h0
  have PH : Hid (∀ k : Nat, atI r at_ = (k : Int) → k < n1 ∧ ∃ b off, o1 = some ⟨b, off, none⟩ ∧ b < w.heap.size ∧ w.cell? ⟨b, off + k * 8 + 5, none⟩ = some (.int .i64 (wiX r at_)) ∧ -9223372036854775808 ≤ wiX r at_ ∧ wiX r at_ ≤ 9223372036854775807) := fun k hk => by
    rcases at_cases r at_ with e | ⟨k', hk', e, _⟩
    · omega
    obtain rfl : k' = k := by omega
    obtain ⟨oa, cap, ev, _, hc⟩ := id hr
    obtain ⟨b, off, eo, hbS, cc, hcell, hat⟩ := hc k' hk'
    rw [width_DRecPhase] at hcell
    rw [at_DRecPhase] at hat
    have ew : wiX r at_ = r[k'].2.2.2.2.2.1 := by unfold wiX; rw [ph_at hk' e]
    cases ev
    refine ⟨hk', b, off, eo, hS b hbS, (hcell 5 (by omega)).trans (by rw [hat.2.2.2.2.2.1.1, ew]), ?_⟩
    rw [ew]
    exact hat.2.2.2.2.2.1.2
  have POS : Hid (recB r = true → 0 ≤ atI r at_ → 1 ≤ wiX r at_) := fun hrb h0 => by
    rcases at_cases r at_ with e | ⟨k', hk', e, _⟩
    · omega
    · have := (ph_name (step_of (rec_iff.1 hrb) hk').1).2.2.1
      have ew : wiX r at_ = r[k'].2.2.2.2.2.1 := by unfold wiX; rw [ph_at hk' e]
      rw [ew]
      omega
  clear h hr hS hn tr ts
  obtain ⟨R, hR⟩ : ∃ R, R = runB (nm, r, sl, at_, si, st) := ⟨_, rfl⟩
  have ER : Hid (R = (nameB nm && recB r && slB r sl && decide (1 ≤ st) && decide (0 ≤ atI r at_) && inB si (-1) (wiX r at_ - 1))) := hR
  rw [← hR]
  clear hR
  obtain ⟨y0, y1, y2, y3, y4, y5⟩ := Y.out W (Below.refl _ _)
  go_enter Try.func21, Try.ntmps21
  go_upto_region 1 with fail
  rw [← EW.out]
  go_wp2_with fail
  refine (nameI_any nm _ HN.out).mono ?_; rintro e w1 ⟨rfl, hb1⟩
  have B1 : Hid (Below W.heap.size W w1) := hb1
  have BW1 : Hid (Below w.heap.size w w1) := (BOX.out w1 hb1).2
  clear y0 y1 y2 y3 y4 y5 hb1
  obtain ⟨y0, y1, y2, y3, y4, y5⟩ := Y.out w1 B1.out
  cases c0 : nameB nm
  · have er : R = false := by rw [ER.out, c0]; simp
    clear y1 y2 y3 y4 y5
    go_wp2_with fail
    go_ret
    rw [er]
    exact ⟨rfl, BW1.out⟩
  by_cases c3 : st < 1
  · have er : R = false := by rw [ER.out, decide_eq_false (by omega : ¬ 1 ≤ st)]; simp
    go_wp2_with fail
    go_ret
    rw [er]
    exact ⟨rfl, BW1.out⟩
  have c3' : decide (1 ≤ st) = true := decide_eq_true (by omega)
  go_wp2_with fail
  refine (okI_any S r _ w1 (HR.out _ BW1.out) (HS.out _ BW1.out) TR.out).mono ?_; rintro e w2 ⟨rfl, hb2⟩
  have B2 : Hid (Below W.heap.size W w2) := B1.out.trans (hb2.mono B1.out.size)
  clear y0 y1 y2 y3 y4 y5 hb2
  obtain ⟨y0, y1, y2, y3, y4, y5⟩ := Y.out w2 B2.out
  have BW2 : Hid (Below w.heap.size w w2) := (BOX.out w2 B2.out).2
  cases c1 : recB r
  · have er : R = false := by rw [ER.out, c1]; simp
    clear y0 y1 y2 y3 y4 y5
    go_wp2_with fail
    go_ret
    rw [er]
    exact ⟨rfl, BW2.out⟩
  go_wp2_with fail
  refine (slotsOkP_any S nm at_ r sl si st o1 o2 n1 k1 n2 k2 w2 (HR.out _ BW2.out) (HA.out _ BW2.out) (HS.out _ BW2.out) TR.out TS.out (rec_iff.1 c1)).mono ?_; rintro e w3 ⟨rfl, hb3⟩
  have B3 : Hid (Below W.heap.size W w3) := B2.out.trans (hb3.mono B2.out.size)
  clear y0 y1 y2 y3 y4 y5 hb3
  obtain ⟨y0, y1, y2, y3, y4, y5⟩ := Y.out w3 B3.out
  have BW3 : Hid (Below w.heap.size w w3) := (BOX.out w3 B3.out).2
  cases c2 : slB r sl
  · have er : R = false := by rw [ER.out, c2]; simp
    clear y0 y1 y2 y3 y4 y5
    go_wp2_with fail
    go_ret
    rw [er]
    exact ⟨rfl, BW3.out⟩
  go_wp2_with fail
  refine (phAt_any S r _ at_ w3 (HR.out _ BW3.out) (HS.out _ BW3.out)).mono ?_; rintro e w4 ⟨rfl, hb4⟩
  have B4 : Hid (Below W.heap.size W w4) := B3.out.trans (hb4.mono B3.out.size)
  clear y0 y1 y2 y3 y4 y5 hb4
  obtain ⟨y0, y1, y2, y3, y4, y5⟩ := Y.out w4 B4.out
  have BW4 : Hid (Below w.heap.size w w4) := (BOX.out w4 B4.out).2
  have P := POS.out c1
  obtain ⟨ex, hex⟩ : ∃ k : Int, k = atI r at_ := ⟨_, rfl⟩
  by_cases c4 : atI r at_ < 0
  · have er : R = false := by rw [ER.out, decide_eq_false (by omega : ¬ 0 ≤ atI r at_)]; simp
    have d4 : decide (0 ≤ ex) = false := decide_eq_false (by omega)
    rw [← hex]
    clear P hex y0 y1 y2 y3 y5
    go_wp2_with fail
    refine wp_region_quiet_below (by kernel_rfl) (by kernel_rfl) ?_
    repeat (first | go_big_quiet_step (fail) | quiet_step (fail))
    refine wpQuiet_nil ?_
    intro _ hw'
    obtain ⟨⟨dq, osq⟩, hw''⟩ := hw'
    subst hw''
    go_wp2_with fail
    go_ret
    rw [er]
    exact ⟨rfl, BW4.out.trans ((below_regrown w4 dq osq).mono BW4.out.size)⟩
  obtain ⟨k, hk⟩ : ∃ k : Nat, atI r at_ = (k : Int) := ⟨(atI r at_).toNat, by omega⟩
  obtain ⟨hkn, b, off, rfl, hb, ce, hl, hh⟩ := PH.out k hk
  have hpos := P (by omega)
  obtain ⟨v, hv⟩ : ∃ v, v = wiX r at_ := ⟨_, rfl⟩
  rw [← hv] at ce hl hh hpos
  have x5 := (BW4.out.cell (p := ⟨b, off + k * 8 + 5, none⟩) hb).trans ce
  obtain ⟨I, hI⟩ : ∃ I, inB si (-1) (v - 1) = I := ⟨_, rfl⟩
  have er : R = I := by rw [ER.out, c0, c1, c2, c3', decide_eq_true (by omega : 0 ≤ atI r at_), ← hv, hI]; simp
  have q0 := fun d os => cell_regrown y0 d os
  have q1 := fun d os => cell_regrown y1 d os
  have q2 := fun d os => cell_regrown y2 d os
  have q3 := fun d os => cell_regrown y3 d os
  have q4 := fun d os => cell_regrown y4 d os
  have q5 := fun d os => cell_regrown y5 d os
  have qx := fun d os => cell_regrown x5 d os
  rw [hk]
  clear P hex hv x5 ce y0 y1 y2 y3 y4 y5 hk c4
  by_cases c5 : si = -1
  · subst c5
    have hIt : I = true := by rw [← hI]; simp [inB]; omega
    have hp : ∀ d os, Calls Try.prog 45 #[.agg #[.string nm, .slice (some ⟨b, off, none⟩) n1 k1, .slice o2 n2 k2, .string at_, .int .i64 (-1), .int .i64 st]] (grow (redrawn w4 d) os) fun e w'' => e = .returned (.iface 109 (.agg #[])) ∧ ∃ p : Regrown, w'' = grow (redrawn w4 p.d) p.os := fun d os => pace_q nm at_ (-1) st _ o2 n1 k1 n2 k2 w4 d os
    go_wp2_with fail
    refine wp_region_quiet_below (by kernel_rfl) (by kernel_rfl) ?_
    repeat (first | go_big_quiet_step (first | (with_reducible exact hp _ _) | (with_reducible exact fitsW_q _ _ _ _)) | quiet_step (first | (with_reducible exact hp _ _) | (with_reducible exact fitsW_q _ _ _ _)))
    refine wpQuiet_nil ?_
    intro _ hw'
    obtain ⟨⟨dq, osq⟩, hw''⟩ := hw'
    subst hw''
    go_wp2_with fail
    go_ret
    rw [er, hIt]
    exact ⟨rfl, BW4.out.trans ((below_regrown w4 dq osq).mono BW4.out.size)⟩
  · have hI2 : (decide (0 ≤ si) && decide (si < v)) = I := by rw [pace_in c5, hI]
    have hp : ∀ d os, Calls Try.prog 45 #[.agg #[.string nm, .slice (some ⟨b, off, none⟩) n1 k1, .slice o2 n2 k2, .string at_, .int .i64 si, .int .i64 st]] (grow (redrawn w4 d) os) fun e w'' => e = .returned (.iface 111 (.agg #[.int .i64 si])) ∧ ∃ p : Regrown, w'' = grow (redrawn w4 p.d) p.os := fun d os => by
      rw [← pa_g c5]; exact pace_q nm at_ si st _ o2 n1 k1 n2 k2 w4 d os
    go_wp2_with fail
    refine wp_region_quiet_below (by kernel_rfl) (by kernel_rfl) ?_
    repeat (first | go_big_quiet_step (first | (with_reducible exact hp _ _) | (with_reducible exact fitsG_q _ _ _ hI2 _ _ _)) | quiet_step (first | (with_reducible exact hp _ _) | (with_reducible exact fitsG_q _ _ _ hI2 _ _ _)))
    refine wpQuiet_nil ?_
    intro _ hw'
    obtain ⟨⟨dq, osq⟩, hw''⟩ := hw'
    subst hw''
    go_wp2_with fail
    go_ret
    rw [er]
    exact ⟨rfl, BW4.out.trans ((below_regrown w4 dq osq).mono BW4.out.size)⟩
theorem run_dist {r : List DRecPhase} {sl : List DRunSlot} {nm at_ : ByteArray} {si st : Int} (h : runB (nm, r, sl, at_, si, st) = true) : (sl.map (·.1)).Nodup :=
  ((sl_two (slt_asc r 12 _)).1 (run_rec h).2).1.dist (slt_asc r 12 _)
end Go.Proofs.Ytobchllaopdchaa
