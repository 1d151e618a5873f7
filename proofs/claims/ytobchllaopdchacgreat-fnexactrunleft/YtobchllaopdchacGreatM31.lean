/-
  Several texts in one.
-/
import Derived.Test.YtobchllaopdchacGreatM20
import Derived.Test.YtobchllaopdchacGreatM9
import Derived.Test.YtobchllaopdchacGreatM11
import Derived.Test.YtobchllaopdchacGreatM30
import Derived.Test.YtobchllaopdchacGreatM24
import Derived.Test.YtobchllaopdchacGreatM27
namespace Go.Proofs.YtobchllaopdchacGreat
open Go.RowKit Go.Sort
theorem inB_lo {n lo hi : Int} (h : n < lo) : inB n lo hi = false := by unfold inB; exact decide_eq_false (by omega)
theorem inB_hi {n lo hi : Int} (h : hi < n) : inB n lo hi = false := by unfold inB; exact decide_eq_false (by omega)
theorem inB_in {n lo hi : Int} (h1 : lo ≤ n) (h2 : n ≤ hi) : inB n lo hi = true := by unfold inB; exact decide_eq_true (by omega)
set_option maxRecDepth 100000 in
set_option maxHeartbeats 8000000 in
theorem ticksP_any (now last : Int) (o2 o3 o4 o5 : Option Addr) (n2 k2 n3 k3 n4 k4 n5 k5 : Nat) (w : World) :
    Calls Tryz.prog 39 #[.agg #[.int .i64 now, .int .i64 last, .slice o2 n2 k2, .slice o3 n3 k3, .slice o4 n4 k4, .slice o5 n5 k5]] w fun e w' => e = .returned (.bool (inB now 0 100000 && inB last 0 1000000)) ∧ Below w.heap.size w w' := by
  by_cases a : 0 ≤ now
  case neg =>
    have e : (inB now 0 100000 && inB last 0 1000000) = false := by rw [inB_lo (by omega)]; rfl
    rw [e]
    go_enter Tryz.func39, Tryz.ntmps39
    go_wp2
    go_ret
    exact ⟨rfl, (Below.refl _ _).alloc (Nat.le_refl _) _⟩
  by_cases b : now ≤ 100000
  case neg =>
    have e : (inB now 0 100000 && inB last 0 1000000) = false := by rw [inB_hi (by omega)]; rfl
    rw [e]
    go_enter Tryz.func39, Tryz.ntmps39
    go_wp2
    go_ret
    exact ⟨rfl, (Below.refl _ _).alloc (Nat.le_refl _) _⟩
  rw [inB_in a b, Bool.true_and]
  by_cases c : 0 ≤ last
  case neg =>
    rw [inB_lo (by omega)]
    go_enter Tryz.func39, Tryz.ntmps39
    go_wp2
    go_ret
    exact ⟨rfl, (Below.refl _ _).alloc (Nat.le_refl _) _⟩
  by_cases d : last ≤ 1000000
  case neg =>
    have d' : decide (last ≤ 1000000) = false := decide_eq_false d
    rw [inB_hi (by omega)]
    go_enter Tryz.func39, Tryz.ntmps39
    go_wp2
    go_ret
    exact ⟨rfl, (Below.refl _ _).alloc (Nat.le_refl _) _⟩
  have d' : decide (last ≤ 1000000) = true := decide_eq_true d
  rw [inB_in c d]
  go_enter Tryz.func39, Tryz.ntmps39
  go_wp2
  go_ret
  exact ⟨rfl, (Below.refl _ _).alloc (Nat.le_refl _) _⟩
set_option maxRecDepth 100000 in
set_option maxHeartbeats 8000000 in
theorem shareP_any (S : Nat → Prop) (now last : Int) (o2 o3 o4 o5 : Option Addr) (n2 k2 n3 k3 n4 k4 n5 k5 : Nat) (T : List ByteArray) (Bs : List DShareBatch) (w : World) (hT : AtL S w T (.slice o2 n2 k2)) (hB : AtL S w Bs (.slice o3 n3 k3)) (hS : ∀ b, S b → b < w.heap.size) (ht : Lay.tot (α := DShareBook) (T, Bs) ≤ 1048576) :
    Calls Tryz.prog 40 #[.agg #[.int .i64 now, .int .i64 last, .slice o2 n2 k2, .slice o3 n3 k3, .slice o4 n4 k4, .slice o5 n5 k5]] w fun e w' => e = .returned (.bool (ordS (T, Bs)).2) ∧ Below w.heap.size w w' := by
  obtain ⟨W, EW, BW, RW, sW⟩ := box_new w #[.int .i64 now, .int .i64 last, .slice o2 n2 k2, .slice o3 n3 k3, .slice o4 n4 k4, .slice o5 n5 k5] 38
  have BOX : Hid (∀ u, Below W.heap.size W u → u.heap[w.heap.size]? = some (.cells #[.int .i64 now, .int .i64 last, .slice o2 n2 k2, .slice o3 n3 k3, .slice o4 n4 k4, .slice o5 n5 k5] 38 (0, 0)) ∧ Below w.heap.size w u) := fun u hu => ⟨(hu.block _ (by omega)).trans RW.out, BW.out.trans (hu.mono (by omega))⟩
  have x2 := (cell_row RW.out 2 _ rfl).1
  have x3 := (cell_row RW.out 3 _ rfl).1
  have C : Hid _ := safeP_any S T Bs o2 o3 n2 k2 n3 k3 W (hT.same (Same.of_below BW.out hS)) (hB.same (Same.of_below BW.out hS)) (fun b hb => Nat.lt_of_lt_of_le (hS b hb) BW.out.size) ht
  clear hT hB hS
  go_enter Tryz.func40, Tryz.ntmps40
  go_upto_region 1 with fail
  rw [← EW.out]
  go_wp2_with fail
  refine Calls.mono C.out ?_; rintro e w1 ⟨rfl, hb1⟩
  have HB : Hid (Below w.heap.size w w1) := BW.out.trans (hb1.mono BW.out.size)
  clear hb1
  go_wp2_with fail
  go_ret
  exact ⟨rfl, HB.out⟩
def don1 (now : Int) (d : DRunDone) : Bool := nameB d.1 && inB d.2.1 1 3 && inB d.2.2 0 now
set_option maxRecDepth 100000 in
set_option maxHeartbeats 8000000 in
theorem doneNot_any (now : Int) (nm : ByteArray) (fi ti : Int) (hb : Nat) (w : World) (hz : nm.size ≤ maxLen) (hx : w.cell? ⟨hb, 0, none⟩ = some (.int .i64 now)) (hlt : hb < w.heap.size) :
    Calls Tryz.prog 67 #[.agg #[.string nm, .int .i64 fi, .int .i64 ti], .pointer (some ⟨hb, 0, none⟩)] w fun e w' => e = .returned (.bool (!(don1 now (nm, fi, ti)))) ∧ Below w.heap.size w w' := by
  have HZ : Hid (nm.size ≤ maxLen) := hz
  obtain ⟨W, EW, BW, RW, sW⟩ := box_new w #[.string nm, .int .i64 fi, .int .i64 ti] 79
  clear hz
  have x0 := (cell_row RW.out 0 _ rfl).1
  obtain ⟨V, hV⟩ : ∃ V, V = don1 now (nm, fi, ti) := ⟨_, rfl⟩
  have ER : Hid (∀ R : Bool, nameB nm = R → V = (R && inB fi 1 3 && inB ti 0 now)) := fun R h => by rw [hV, ← h]; rfl
  rw [← hV]
  clear hV
  go_enter Tryz.func67, Tryz.ntmps67
  go_upto_region 1 with fail
  rw [← EW.out]
  go_wp2_with fail
  refine (nameI_any nm _ HZ.out).mono ?_; rintro e w1 ⟨rfl, hb1⟩
  have B1 : Hid (Below w.heap.size w w1) := BW.out.trans (hb1.mono BW.out.size)
  have x1 := (hb1.cell (p := ⟨w.heap.size, 1, none⟩) (by show w.heap.size < _; omega)).trans (cell_row RW.out 1 _ rfl).1
  have x2 := (hb1.cell (p := ⟨w.heap.size, 2, none⟩) (by show w.heap.size < _; omega)).trans (cell_row RW.out 2 _ rfl).1
  have xn := (B1.out.cell (p := ⟨hb, 0, none⟩) hlt).trans hx
  clear x0 hb1 hx
  cases c : nameB nm
  · have er : Hid (V = false) := by show _ = _; rw [ER.out _ c]; rfl
    go_wp2_with fail
    go_ret
    rw [er.out]
    exact ⟨rfl, B1.out⟩
  by_cases c1 : fi < 1
  · have er : Hid (V = false) := by show _ = _; rw [ER.out _ c, inB_lo c1]; rfl
    go_wp2_with fail
    go_ret
    rw [er.out]
    exact ⟨rfl, B1.out⟩
  by_cases c2 : 3 < fi
  · have er : Hid (V = false) := by show _ = _; rw [ER.out _ c, inB_hi c2]; rfl
    go_wp2_with fail
    go_ret
    rw [er.out]
    exact ⟨rfl, B1.out⟩
  by_cases c3 : ti < 0
  · have er : Hid (V = false) := by show _ = _; rw [ER.out _ c, inB_lo c3, Bool.and_false]
    go_wp2_with fail
    go_ret
    rw [er.out]
    exact ⟨rfl, B1.out⟩
  by_cases c4 : now < ti
  · have d4 : decide (now < ti) = true := decide_eq_true c4
    have er : Hid (V = false) := by show _ = _; rw [ER.out _ c, inB_hi c4, Bool.and_false]
    go_wp2_with fail
    go_ret
    rw [er.out]
    exact ⟨rfl, B1.out⟩
  · have d4 : decide (now < ti) = false := decide_eq_false c4
    have er : Hid (V = true) := by show _ = _; rw [ER.out _ c, inB_in (by omega) (by omega), inB_in (by omega) (by omega)]; rfl
    have q1 : decide (fi < 1) = false := decide_eq_false c1
    have q2 : decide (3 < fi) = false := decide_eq_false c2
    have q3 : decide (ti < 0) = false := decide_eq_false c3
    go_wp2_with fail
    go_ret
    rw [er.out]
    exact ⟨rfl, B1.out⟩
set_option maxRecDepth 100000 in
set_option maxHeartbeats 8000000 in
theorem doneIdx_any (S : Nat → Prop) (now : Int) (Do : List DRunDone) (oa : Option Addr) (n cap hb : Nat) (w : World) (h : AtL S w Do (.slice oa n cap)) (hS : ∀ b, S b → b < w.heap.size) (hx : w.cell? ⟨hb, 0, none⟩ = some (.int .i64 now)) (hlt' : hb < w.heap.size) :
    Calls Tryz.prog 107 #[.slice oa n cap, .func (.func 67) #[] #[.pointer (some ⟨hb, 0, none⟩)]] w fun e w' => e = .returned (.int .i64 (idxI Do (fun d => !(don1 now d)))) ∧ Below w.heap.size w w' := by
  have en : Do.length = n := by obtain ⟨_, _, e, _⟩ := h; cases e; rfl
  have hmx : n ≤ 9223372036854775807 := by obtain ⟨_, _, e, hf, _⟩ := id h; cases e; have := hf.1; unfold maxLen at this; omega
  have EN : Hid (Do.length ≤ n ∧ n ≤ Do.length) := ⟨by omega, by omega⟩
  have ROW : Hid (∀ i (hi : i < Do.length), ∃ b off, oa = some ⟨b, off, none⟩ ∧ b < w.heap.size ∧ w.cell? ⟨b, off + i * 3, none⟩ = some (.string Do[i].1) ∧ w.cell? ⟨b, off + i * 3 + 1, none⟩ = some (.int .i64 Do[i].2.1) ∧ w.cell? ⟨b, off + i * 3 + 2, none⟩ = some (.int .i64 Do[i].2.2) ∧ Do[i].1.size ≤ maxLen) := fun i hi => by
    obtain ⟨b, off, e, hb, c⟩ := rd_at h i hi
    exact ⟨b, off, e, hS b hb, c⟩
  have HX : Hid _ := hx
  clear h hS en hx
  go_enter Tryz.func107, Tryz.ntmps107
  go_wp2_with fail
  go_loopw [8] (fun i wr => ∃ k : Nat, k ≤ n ∧ i = .int .i64 k ∧ Hid (∀ j (hj : j < Do.length), j < k → (fun d : DRunDone => !(don1 now d)) Do[j] = false) ∧ Hid (Below w.heap.size w wr)) (fun i _ => n - (intOf i).toNat)
  case atStart => exact ⟨0, Nat.zero_le _, rfl, fun _ _ h => by omega, Below.refl _ _⟩
  case round =>
    obtain ⟨k, hk, rfl, hno, hbel⟩ := hrel
    have hs := hbel.out.size
    by_cases hlt : k < n
    case neg =>
      go_wp2_with fail
      go_ret
      rw [show idxI Do (fun d => !(don1 now d)) = -1 from idx_no (fun i hi => hno.out i hi (by have := EN.out; omega))]
      exact ⟨rfl, hbel.out⟩
    have hks : k < Do.length := by have := EN.out; omega
    obtain ⟨b, off, rfl, hbw, c0, c1, c2, z0⟩ := ROW.out k hks
    obtain ⟨f, ef⟩ : ∃ f, Do[k] = f := ⟨_, rfl⟩
    rw [ef] at c0 c1 c2 z0
    obtain ⟨nm, fi, ti⟩ := f
    simp only at c0 c1 c2 z0
    have EF : Hid (Do[k] = (nm, fi, ti)) := ef
    have e0 := (hbel.out.cell (p := ⟨b, off + k * 3, none⟩) hbw).trans c0
    have e1 := (hbel.out.cell (p := ⟨b, off + k * 3 + 1, none⟩) hbw).trans c1
    have e2 := (hbel.out.cell (p := ⟨b, off + k * 3 + 2, none⟩) hbw).trans c2
    have HXR : Hid (wr.cell? ⟨hb, 0, none⟩ = some (.int .i64 now)) := (hbel.out.cell (p := ⟨hb, 0, none⟩) hlt').trans HX.out
    have HZ : Hid (nm.size ≤ maxLen) := z0
    clear c0 c1 c2 z0 ef
    cases c : don1 now (nm, fi, ti)
    · have HIT : Hid (idxI Do (fun d => !(don1 now d)) = (k : Int)) := idx_yes hks (by show (!(don1 now Do[k])) = true; rw [EF.out, c]; rfl) hno.out
      go_wp2_with fail
      refine (doneNot_any now nm fi ti hb _ HZ.out HXR.out (by omega)).mono ?_; rintro e w1 ⟨rfl, hb1⟩
      rw [c]
      have B1 : Hid (Below w.heap.size w w1) := hbel.out.trans (hb1.mono hs)
      clear hb1
      go_wp2_with fail
      go_ret
      rw [HIT.out]
      exact ⟨rfl, B1.out⟩
    · have HP : Hid ((fun d : DRunDone => !(don1 now d)) Do[k] = false) := by show (!(don1 now Do[k])) = false; rw [EF.out, c]; rfl
      go_wp2_with fail
      refine (doneNot_any now nm fi ti hb _ HZ.out HXR.out (by omega)).mono ?_; rintro e w1 ⟨rfl, hb1⟩
      rw [c]
      have B1 : Hid (Below w.heap.size w w1) := hbel.out.trans (hb1.mono hs)
      clear hb1
      go_wp2_with fail
      go_roundw
      case rel => exact ⟨k + 1, by omega, by go_num, fun j hj hjk => by
        by_cases e : j = k
        · subst e; exact HP.out
        · exact hno.out j hj (by omega), B1.out⟩
      case measure => simp [intOf]; omega
theorem cmpDone_q (a b : ByteArray) (a1 a2 b1 b2 : Int) (wr : World) (r : Int) (hr : cmpI a2 b2 = r) (d : Nat) (os : Array Obj) : Calls Tryz.prog 71 #[.agg #[.string a, .int .i64 a1, .int .i64 a2], .agg #[.string b, .int .i64 b1, .int .i64 b2]] (grow (redrawn wr d) os) fun e w'' => e = .returned (.int .i64 r) ∧ ∃ p : Regrown, w'' = grow (redrawn wr p.d) p.os :=
  Calls.regrown_of (by
    subst hr
    go_enter Tryz.func71, Tryz.ntmps71
    go_wp2_with (go_at_call 108; refine (cmpN_any _ _ _).mono ?_; rintro e w1 ⟨rfl, rfl⟩)
    go_ret
    exact ⟨rfl, ((Below.refl _ _).alloc (Nat.le_refl _) _).alloc (by simp) _⟩)
def SrtP (Do : List DRunDone) : Prop := ∀ i (hi : i < Do.length) m (hm : m < Do.length), i = m + 1 → Do[m].2.2 ≤ Do[i].2.2
noncomputable def srtB (Do : List DRunDone) : Bool := @decide (SrtP Do) (Classical.propDecidable _)
theorem srt_yes {Do : List DRunDone} (h : SrtP Do) : srtB Do = true := by unfold srtB; exact @decide_eq_true _ (Classical.propDecidable _) h
theorem srt_no {Do : List DRunDone} (h : ¬ SrtP Do) : srtB Do = false := by unfold srtB; exact @decide_eq_false _ (Classical.propDecidable _) h
theorem srt_iff {Do : List DRunDone} : srtB Do = true ↔ SrtP Do := by unfold srtB; exact @decide_eq_true_iff _ (Classical.propDecidable _)
set_option maxRecDepth 100000 in
set_option maxHeartbeats 8000000 in
theorem doneSort_any (S : Nat → Prop) (Do : List DRunDone) (oa : Option Addr) (n cap : Nat) (w : World) (h : AtL S w Do (.slice oa n cap)) (hS : ∀ b, S b → b < w.heap.size) :
    Calls Tryz.prog 70 #[.slice oa n cap, .func (.func 71) #[] #[]] w fun e w' => e = .returned (.bool (srtB Do)) ∧ Below w.heap.size w w' := by
  have en : Do.length = n := by obtain ⟨_, _, e, _⟩ := h; cases e; rfl
  have hmx : n ≤ 9223372036854775807 := by obtain ⟨_, _, e, hf, _⟩ := id h; cases e; have := hf.1; unfold maxLen at this; omega
  have EN : Hid (Do.length ≤ n ∧ n ≤ Do.length) := ⟨by omega, by omega⟩
  have ROW : Hid (∀ i (hi : i < Do.length), ∃ b off, oa = some ⟨b, off, none⟩ ∧ b < w.heap.size ∧ w.cell? ⟨b, off + i * 3, none⟩ = some (.string Do[i].1) ∧ w.cell? ⟨b, off + i * 3 + 1, none⟩ = some (.int .i64 Do[i].2.1) ∧ w.cell? ⟨b, off + i * 3 + 2, none⟩ = some (.int .i64 Do[i].2.2) ∧ Do[i].1.size ≤ maxLen) := fun i hi => by
    obtain ⟨b, off, e, hb, c⟩ := rd_at h i hi
    exact ⟨b, off, e, hS b hb, c⟩
  clear h hS en
  go_enter Tryz.func70, Tryz.ntmps70
  go_wp2_with fail
  go_loopw [5] (fun i wr => ∃ k : Int, -1 ≤ k ∧ k < n ∧ i = .int .i64 k ∧ Hid (∀ i (hi : i < Do.length) m (hm : m < Do.length), i = m + 1 → k < i → Do[m].2.2 ≤ Do[i].2.2) ∧ Hid (Below w.heap.size w wr)) (fun i _ => (intOf i).toNat)
  case atStart => exact ⟨(n : Int) - 1, by omega, by omega, rfl, fun i hi m hm e h => by have := EN.out; omega, Below.refl _ _⟩
  case round =>
    obtain ⟨k, hk0, hk, rfl, hall, hbel⟩ := hrel
    have hs := hbel.out.size
    by_cases hpos : 0 < k
    case neg =>
      go_wp2_with fail
      go_ret
      rw [srt_yes fun i hi m hm e => hall.out i hi m hm e (by omega)]
      exact ⟨rfl, hbel.out⟩
    obtain ⟨m, rfl⟩ : ∃ m : Nat, k = (m : Int) + 1 := ⟨(k - 1).toNat, by omega⟩
    have h1 : m + 1 < Do.length := by have := EN.out; omega
    have h0 : m < Do.length := by omega
    obtain ⟨b, off, rfl, hbw, c0, c1, c2, _⟩ := ROW.out (m + 1) h1
    obtain ⟨_, _, eo, _, d0, d1, d2, _⟩ := ROW.out m h0
    cases eo
    obtain ⟨f, ef⟩ : ∃ f, Do[m + 1] = f := ⟨_, rfl⟩
    obtain ⟨g, eg⟩ : ∃ g, Do[m] = g := ⟨_, rfl⟩
    rw [ef] at c0 c1 c2
    rw [eg] at d0 d1 d2
    obtain ⟨nm, fi, ti⟩ := f
    obtain ⟨pn, pf, pt⟩ := g
    simp only at c0 c1 c2 d0 d1 d2
    have EF : Hid (Do[m + 1].2.2 = ti ∧ Do[m].2.2 = pt) := ⟨by rw [ef], by rw [eg]⟩
    have hc1 : ((m : Int) + 1 : Int) = ((m + 1 : Nat) : Int) := by simp
    have q0 := fun d os => cell_regrown ((hbel.out.cell (p := ⟨b, off + (m + 1) * 3, none⟩) hbw).trans c0) d os
    have q1 := fun d os => cell_regrown ((hbel.out.cell (p := ⟨b, off + (m + 1) * 3 + 1, none⟩) hbw).trans c1) d os
    have q2 := fun d os => cell_regrown ((hbel.out.cell (p := ⟨b, off + (m + 1) * 3 + 2, none⟩) hbw).trans c2) d os
    have r0 := fun d os => cell_regrown ((hbel.out.cell (p := ⟨b, off + m * 3, none⟩) hbw).trans d0) d os
    have r1 := fun d os => cell_regrown ((hbel.out.cell (p := ⟨b, off + m * 3 + 1, none⟩) hbw).trans d1) d os
    have r2 := fun d os => cell_regrown ((hbel.out.cell (p := ⟨b, off + m * 3 + 2, none⟩) hbw).trans d2) d os
    clear c0 c1 c2 d0 d1 d2 ef eg hc1
    have hmn : m + 1 < n := by have := EN.out; omega
    obtain ⟨v, hv⟩ : ∃ v, cmpI ti pt = v := ⟨_, rfl⟩
    by_cases hlt : ti < pt
    · have hvn : v < 0 := by rw [← hv]; unfold cmpI; rw [if_pos hlt]; decide
      have dv : decide (v < 0) = true := decide_eq_true hvn
      have HP : Hid (¬ SrtP Do) := fun h => by
        have := h (m + 1) h1 m h0 rfl
        rw [EF.out.1, EF.out.2] at this
        omega
      go_wp2_with fail
      refine wp_region_quiet_below (by kernel_rfl) (by kernel_rfl) ?_
      repeat (first | go_big_quiet_step (first | (with_reducible exact cmpDone_q _ _ _ _ _ _ _ _ hv _ _)) | quiet_step (first | (with_reducible exact cmpDone_q _ _ _ _ _ _ _ _ hv _ _)))
      refine wpQuiet_nil ?_
      intro _ hw'
      obtain ⟨⟨dq, osq⟩, hw''⟩ := hw'
      subst hw''
      go_wp2_with fail
      go_ret
      rw [srt_no HP.out]
      exact ⟨rfl, hbel.out.trans ((below_regrown wr dq osq).mono hs)⟩
    · have hvn : ¬ v < 0 := by rw [← hv]; unfold cmpI; rw [if_neg hlt]; split <;> decide
      have dv : decide (v < 0) = false := decide_eq_false hvn
      have HP : Hid (Do[m].2.2 ≤ Do[m + 1].2.2) := by rw [EF.out.1, EF.out.2]; show pt ≤ ti; omega
      go_wp2_with fail
      refine wp_region_quiet_below (by kernel_rfl) (by kernel_rfl) ?_
      repeat (first | go_big_quiet_step (first | (with_reducible exact cmpDone_q _ _ _ _ _ _ _ _ hv _ _)) | quiet_step (first | (with_reducible exact cmpDone_q _ _ _ _ _ _ _ _ hv _ _)))
      refine wpQuiet_nil ?_
      intro _ hw'
      obtain ⟨⟨dq, osq⟩, hw''⟩ := hw'
      subst hw''
      go_wp2_with fail
      go_roundw
      case rel => exact ⟨(m : Int), by omega, by omega, by go_num, fun i hi m' hm e h => by
        by_cases e2 : m' = m
        · subst e2; subst e; exact HP.out
        · exact hall.out i hi m' hm e (by omega), hbel.out.trans ((below_regrown wr dq osq).mono hs)⟩
      case measure => simp [intOf]
theorem don_two (now : Int) (Do : List DRunDone) : donB now Do = (decide (Do.length ≤ 20) && (!decide (0 ≤ idxI Do (fun d => !(don1 now d)))) && srtB Do) := by
  cases c : donB now Do with
  | true =>
    have h := don_iff.1 c
    have h1 : idxI Do (fun d => !(don1 now d)) = -1 := idx_no fun i hi => by
      have r := h.row i hi
      simp only [don1, r.name, r.fin, r.tick]; rfl
    rw [decide_eq_true h.len, h1, srt_yes fun i hi m hm e => (h.row i hi).asc m hm e]
    rfl
  | false =>
    symm
    rw [Bool.eq_false_iff]
    intro hh
    simp only [Bool.and_eq_true, decide_eq_true_eq, Bool.not_eq_true', decide_eq_false_iff_not] at hh
    obtain ⟨⟨h1, h2⟩, h3⟩ := hh
    have hs := srt_iff.1 h3
    have : donB now Do = true := don_yes ⟨h1, fun i hi => by
      have hd : don1 now Do[i] = true := by
        cases e : don1 now Do[i] with
        | true => rfl
        | false =>
          exfalso
          apply h2
          unfold idxI
          cases e2 : Do.findIdx? (fun d => !(don1 now d)) with
          | none => have := (List.findIdx?_eq_none_iff.1 e2) Do[i] (List.getElem_mem hi); simp [e] at this
          | some q => simp
      simp only [don1, Bool.and_eq_true] at hd
      exact ⟨hd.1.1, hd.1.2, hd.2, fun m hm e => hs i hi m hm e⟩⟩
    rw [this] at c; cases c
set_option maxRecDepth 100000 in
set_option maxHeartbeats 8000000 in
theorem doneHas_any (S : Nat → Prop) (now : Int) (Do : List DRunDone) (oa : Option Addr) (n cap hb : Nat) (w : World) (h : AtL S w Do (.slice oa n cap)) (hS : ∀ b, S b → b < w.heap.size) (hx : w.cell? ⟨hb, 0, none⟩ = some (.int .i64 now)) (hlt' : hb < w.heap.size) :
    Calls Tryz.prog 69 #[.slice oa n cap, .func (.func 67) #[] #[.pointer (some ⟨hb, 0, none⟩)]] w fun e w' => e = .returned (.bool (decide (0 ≤ idxI Do (fun d => !(don1 now d))))) ∧ Below w.heap.size w w' := by
  have C0 := doneIdx_any S now Do oa n cap hb w h hS hx hlt'
  clear h hS hx
  obtain ⟨V, hV⟩ : ∃ V, V = idxI Do (fun d => !(don1 now d)) := ⟨_, rfl⟩
  rw [← hV] at C0 ⊢
  clear hV
  have C : Hid _ := C0
  clear C0
  go_enter Tryz.func69, Tryz.ntmps69
  go_wp2_with fail
  refine Calls.mono C.out ?_; rintro e w1 ⟨rfl, hb1⟩
  have HB : Hid _ := hb1
  clear hb1 C
  go_wp2_with fail
  go_ret
  exact ⟨rfl, HB.out⟩
set_option maxRecDepth 100000 in
set_option maxHeartbeats 8000000 in
theorem donesP_any (S : Nat → Prop) (now last : Int) (o2 o3 o4 o5 : Option Addr) (n2 k2 n3 k3 n4 k4 n5 k5 : Nat) (Do : List DRunDone) (w : World) (h : AtL S w Do (.slice o5 n5 k5)) (hS : ∀ b, S b → b < w.heap.size) :
    Calls Tryz.prog 41 #[.agg #[.int .i64 now, .int .i64 last, .slice o2 n2 k2, .slice o3 n3 k3, .slice o4 n4 k4, .slice o5 n5 k5]] w fun e w' => e = .returned (.bool (donB now Do)) ∧ Below w.heap.size w w' := by
  have hmf : ∀ (fn : Fn) (first cap : Array Value) (w : World), (Instr.makeFunc fn first cap).run Tryz.prog w = .ok (.func fn first cap) w := fun _ _ _ _ => rfl
  have en : Do.length = n5 := by obtain ⟨_, _, e, _⟩ := h; cases e; rfl
  obtain ⟨W, EW, BW, RW, sW⟩ := box_new w #[.int .i64 now, .int .i64 last, .slice o2 n2 k2, .slice o3 n3 k3, .slice o4 n4 k4, .slice o5 n5 k5] 38
  have BOX : Hid (∀ u, Below W.heap.size W u → u.heap[w.heap.size]? = some (.cells #[.int .i64 now, .int .i64 last, .slice o2 n2 k2, .slice o3 n3 k3, .slice o4 n4 k4, .slice o5 n5 k5] 38 (0, 0)) ∧ Below w.heap.size w u) := fun u hu => ⟨(hu.block _ (by omega)).trans RW.out, BW.out.trans (hu.mono (by omega))⟩
  have H5 : Hid _ := h.ups hS
  have HS : Hid _ := lt_up hS
  have TWO : Hid (donB now Do = (decide (n5 ≤ 20) && (!decide (0 ≤ idxI Do (fun d => !(don1 now d)))) && srtB Do)) := by show _ = _; rw [don_two, en]
  clear h hS en
  obtain ⟨V, hV⟩ : ∃ V, V = donB now Do := ⟨_, rfl⟩
  rw [← hV] at TWO ⊢
  clear hV
  have y5 := (cell_row RW.out 5 _ rfl).1
  have y0 := (cell_row RW.out 0 _ rfl).1
  go_enter Tryz.func41, Tryz.ntmps41
  go_upto_region 1 with fail
  rw [← EW.out]
  by_cases hl : n5 ≤ 20
  case neg =>
    have d0 : decide ((20 : Int) < (n5 : Int)) = true := decide_eq_true (by omega)
    go_wp2_with fail
    go_ret
    rw [TWO.out, decide_eq_false hl]
    exact ⟨rfl, BW.out⟩
  have d0 : decide ((20 : Int) < (n5 : Int)) = false := decide_eq_false (by omega)
  rw [decide_eq_true hl, Bool.true_and] at TWO
  go_wp2_with fail
  refine (doneHas_any S now Do o5 n5 k5 w.heap.size W (H5.out W BW.out) (HS.out W BW.out) y0 (by omega)).mono ?_; rintro e w1 ⟨rfl, hb1⟩
  have C1 : Hid (Below W.heap.size W w1) := hb1
  clear hb1 y0 y5
  have B1 := BOX.out w1 C1.out
  have B1w : Hid (Below w.heap.size w w1) := B1.2
  have y5 := (cell_row B1.1 5 _ rfl).1
  cases c : decide (0 ≤ idxI Do (fun d => !(don1 now d)))
  · rw [c] at TWO
    have TW : Hid (V = srtB Do) := by show _ = _; rw [TWO.out]; rfl
    go_wp2_with fail
    refine (doneSort_any S Do o5 n5 k5 w1 (H5.out w1 B1w.out) (HS.out w1 B1w.out)).mono ?_; rintro e w2 ⟨rfl, hb2⟩
    rw [← TW.out]
    have B2 : Hid (Below w.heap.size w w2) := B1w.out.trans (hb2.mono B1w.out.size)
    clear hb2 y5
    go_wp2_with fail
    go_ret
    exact ⟨rfl, B2.out⟩
  · rw [c] at TWO
    have TW : V = false := by rw [TWO.out]; rfl
    clear y5
    go_wp2_with fail
    go_ret
    rw [TW]
    exact ⟨rfl, B1w.out⟩
end Go.Proofs.YtobchllaopdchacGreat

namespace Go.Proofs.YtobchllaopdchacGreat
open Go.RowKit Go.Sort
noncomputable def hopB (now last : Int) (T : List ByteArray) (Bs : List DShareBatch) (Ba : List DRunBatch) (Do : List DRunDone) : Bool :=
  (inB now 0 100000 && inB last 0 1000000) && ((ordS (T, Bs)).2 && (donB now Do && (basB last Ba && (nmeB Bs (sortL (Ba.map fun b => b.1)) && nedA Bs Ba))))
theorem safe_bok {T : List ByteArray} {Bs : List DShareBatch} (h : (ordS (T, Bs)).2 = true) : BokP (T, Bs) := by
  cases c : bokB (T, Bs) with
  | true => exact bok_iff.1 c
  | false => exfalso; unfold ordS at h; rw [c] at h; simp at h
theorem at_is {Bs : List DShareBatch} {x : ByteArray} {q : Nat} (h : atZI Bs x = (q : Int)) (hq : q < Bs.length) : Bs[q].1 = x := by
  unfold atZI idxI at h
  cases e : Bs.findIdx? (fun f => eqB f.1 x) with
  | none => rw [e] at h; simp only at h; omega
  | some i =>
    rw [e] at h
    simp only at h
    obtain rfl : i = q := by omega
    obtain ⟨_, h2, _⟩ := List.findIdx?_eq_some_iff_getElem.1 e
    exact (eqB_iff _ _).1 h2
theorem at_mem {Bs : List DShareBatch} {x : ByteArray} : ¬ atZI Bs x < 0 ↔ x ∈ Bs.map (·.1) := by
  constructor
  · intro h
    obtain ⟨q, eq, hq⟩ := at_lt h
    exact List.mem_map.2 ⟨Bs[q], List.getElem_mem hq, at_is eq hq⟩
  · intro h hlt
    obtain ⟨f, hf, rfl⟩ := List.mem_map.1 h
    unfold atZI idxI at hlt
    cases e : Bs.findIdx? (fun g => eqB g.1 f.1) with
    | none => have := (List.findIdx?_eq_none_iff.1 e) f hf; rw [eqB_refl] at this; cases this
    | some i => rw [e] at hlt; simp only at hlt; omega
theorem bok_asc {T : List ByteArray} {Bs : List DShareBatch} (h : BokP (T, Bs)) : AscL (Bs.map (·.1)) := by
  have asx : ∀ k (hk : k < Bs.length), asO (fun a b : DShareBatch => ltB a.1 b.1) (prevO Bs k) Bs[k] = true := fun k hk => by
    have := (h.row k hk).bat
    unfold batB at this
    simp only [Bool.and_eq_true] at this
    exact this.1.1.2
  have far := asc_far (R := fun a b : DShareBatch => ltB a.1 b.1) (fun h1 h2 => ltB_trans h1 h2) asx
  refine List.pairwise_iff_getElem.2 fun i j hi hj hij => ?_
  rw [List.getElem_map, List.getElem_map]
  exact far j i (by simpa using hj) hij
theorem sub_fullD {α : Type} [DecidableEq α] : ∀ (l m : List α), l.Nodup → (∀ y ∈ l, y ∈ m) → m.length ≤ l.length → ∀ y ∈ m, y ∈ l
  | [], m, _, _, hl, y, hy => by
    obtain rfl : m = [] := List.eq_nil_of_length_eq_zero (by simpa using hl)
    exact hy
  | a :: l, m, nd, hs, hl, y, hy => by
    obtain ⟨na, nl⟩ := List.nodup_cons.1 nd
    have ha : a ∈ m := hs a List.mem_cons_self
    by_cases e : y = a
    · rw [e]; exact List.mem_cons_self
    · have hlen : (m.erase a).length ≤ l.length := by
        have := List.length_erase_of_mem ha
        simp only [List.length_cons] at hl
        omega
      exact List.mem_cons_of_mem _ (sub_fullD l (m.erase a) nl (fun z hz => (List.mem_erase_of_ne (fun e2 : z = a => na (by rw [← e2]; exact hz))).2 (hs z (List.mem_cons_of_mem _ hz))) hlen y ((List.mem_erase_of_ne e).2 hy))
theorem sub_full (l m : List ByteArray) (h1 : l.Nodup) (h2 : ∀ y ∈ l, y ∈ m) (h3 : m.length ≤ l.length) : ∀ y ∈ m, y ∈ l := @sub_fullD _ (fun a b => Classical.propDecidable (a = b)) l m h1 h2 h3
theorem one_nodup {Ba : List DRunBatch} (h : ∀ i (hi : i < Ba.length), ofI Ba Ba[i].1 = (i : Int)) : (Ba.map fun b => b.1).Nodup := by
  refine List.pairwise_iff_getElem.2 fun i j hi hj hij e => ?_
  rw [List.getElem_map, List.getElem_map] at e
  have h1 := h i (by simpa using hi)
  have h2 := h j (by simpa using hj)
  rw [e, h2] at h1
  omega
theorem nodup_one {Ba : List DRunBatch} (h : (Ba.map fun b => b.1).Nodup) (i : Nat) (hi : i < Ba.length) : ofI Ba Ba[i].1 = (i : Int) := by
  refine idx_yes hi (eqB_refl _) fun j hj hji => ?_
  cases e : eqB Ba[j].1 Ba[i].1
  · rfl
  · have := List.pairwise_iff_getElem.1 h j i (by simpa using hj) (by simpa using hi) hji
    rw [List.getElem_map, List.getElem_map] at this
    exact absurd ((eqB_iff _ _).1 e) this
theorem sub_all {all l : List ByteArray} (ha : AscL l) : subB all l = allB l all := by
  rw [Bool.eq_iff_iff]
  constructor
  · intro h
    unfold allB
    rw [List.all_eq_true]
    intro x hx
    exact (hasB_iff _ _).2 ((sub_parts h).2 x hx)
  · intro h
    unfold allB at h
    rw [List.all_eq_true] at h
    rw [subB, ok_iff]
    refine ⟨Nat.le_refl _, fun i hi => ?_⟩
    rw [tst, Bool.and_eq_true]
    refine ⟨h _ (List.getElem_mem hi), ?_⟩
    cases i with
    | zero => exact as_zero 0 hi rfl
    | succ m => rw [prev_succ l m (by omega)]; exact List.pairwise_iff_getElem.1 ha m (m + 1) (by omega) hi (by omega)
theorem ow_asc (b : DRunBatch) : AscL (owL b) := by
  unfold owL
  split
  · exact both_asc _ _ List.Pairwise.nil
  · exact List.Pairwise.nil
theorem run_si {b : DRunBatch} (h : runB b = true) : -1 ≤ b.2.2.2.2.1 := by
  unfold runB at h
  simp only [Bool.and_eq_true] at h
  have := h.2
  unfold inB at this
  exact (of_decide_eq_true this).1
theorem shr_iff {b : DRunBatch} {ha ne : List ByteArray} (hr : runB b = true) : shrB b ha ne = true ↔ ne = tgL b b.2.2.2.1 ∧ (0 ≤ b.2.2.2.2.1 → allB (owL b) ha = true) := by
  unfold shrB
  rw [Bool.and_eq_true, alk_iff, Bool.or_eq_true, decide_eq_true_eq, sub_all (ow_asc b)]
  have := run_si hr
  constructor
  · rintro ⟨h1, h2⟩
    exact ⟨h1, fun h0 => h2.resolve_left (by omega)⟩
  · rintro ⟨h1, h2⟩
    refine ⟨h1, ?_⟩
    by_cases e : b.2.2.2.2.1 = -1
    · exact .inl e
    · exact .inr (h2 (by omega))
theorem neda_iff {Bs : List DShareBatch} {Ba : List DRunBatch} : nedA Bs Ba = true ↔ ∀ i (hi : i < Ba.length), nedB Bs Ba[i] = true := by
  unfold nedA
  constructor
  · intro h i hi
    cases e : nedB Bs Ba[i] with
    | true => rfl
    | false =>
      exfalso
      have hn : ¬ (0 ≤ idxI Ba (fun d => !(nedB Bs d))) := by simpa using h
      apply hn
      unfold idxI
      cases e2 : Ba.findIdx? (fun d => !(nedB Bs d)) with
      | none => have := (List.findIdx?_eq_none_iff.1 e2) Ba[i] (List.getElem_mem hi); simp [e] at this
      | some q => simp
  · intro h
    rw [idx_no (fun i hi => by show (!(nedB Bs Ba[i])) = false; rw [h i hi]; rfl)]
    rfl
theorem bas_iff {last : Int} {Ba : List DRunBatch} : basB last Ba = true ↔ Ba.length ≤ 5 ∧ (∀ i (hi : i < Ba.length), on1 last Ba[i] = true) ∧ SrR Ba := by
  unfold basB
  rw [Bool.and_eq_true, Bool.and_eq_true, decide_eq_true_eq, List.all_eq_true, srR_iff]
  constructor
  · rintro ⟨h1, h2, h3⟩
    exact ⟨h1, fun i hi => h2 _ (List.getElem_mem hi), h3⟩
  · rintro ⟨h1, h2, h3⟩
    exact ⟨h1, fun b hb => by obtain ⟨i, hi, rfl⟩ := List.getElem_of_mem hb; exact h2 i hi, h3⟩
theorem on1_iff {last : Int} {b : DRunBatch} : on1 last b = true ↔ runB b = true ∧ b.2.2.2.2.2 ≤ last := by
  unfold on1
  rw [Bool.and_eq_true, decide_eq_true_eq]
theorem hou_hop {now last : Int} {T : List ByteArray} {Bs : List DShareBatch} {Ba : List DRunBatch} {Do : List DRunDone} : houB now last T Bs Ba Do = hopB now last T Bs Ba Do := by
  rw [Bool.eq_iff_iff, hou_iff]
  unfold hopB
  simp only [Bool.and_eq_true]
  constructor
  · intro h
    have OK := safe_bok h.safe
    have hS := sha_iff.1 h.shares
    have hl := hS.len
    have nd : (Ba.map fun b => b.1).Nodup := one_nodup fun i hi => (h.row i hi).one
    have sub : ∀ y ∈ Ba.map (fun b => b.1), y ∈ Bs.map (·.1) := fun y hy => by
      obtain ⟨b, hb, rfl⟩ := List.mem_map.1 hy
      obtain ⟨i, hi, rfl⟩ := List.getElem_of_mem hb
      exact at_mem.1 (hS.row i hi).at_
    have mem : ∀ y, y ∈ Bs.map (·.1) ↔ y ∈ Ba.map (fun b => b.1) := fun y => ⟨sub_full _ _ nd sub (by rw [List.length_map, List.length_map]; omega) y, sub y⟩
    refine ⟨⟨h.now_, h.last_⟩, h.safe, h.dones, ?_, ?_, ?_⟩
    · have h5 : Bs.length ≤ 5 := OK.len
      exact bas_iff.2 ⟨by omega, fun i hi => on1_iff.2 ⟨(h.row i hi).run, (h.row i hi).start⟩, fun i hi m hm e => (h.row i hi).asc m hm e⟩
    · rw [nme_iff]
      exact asc_unique _ _ (bok_asc OK) (sort_asc nd) fun y => by rw [sort_mem]; exact mem y
    · rw [neda_iff]
      intro i hi
      obtain ⟨q, eq, hq⟩ := at_lt (hS.row i hi).at_
      rw [ned_at hq eq, shr_iff (h.row i hi).run]
      exact ⟨(hS.row i hi).needs q hq eq, (hS.row i hi).has q hq eq⟩
  · rintro ⟨⟨h1, h2⟩, h3, h4, h5, h6, h7⟩
    have OK := safe_bok h3
    obtain ⟨_, ho, hsr⟩ := bas_iff.1 h5
    have hnm := nme_iff.1 h6
    have hned := neda_iff.1 h7
    have nd : (Ba.map fun b => b.1).Nodup := by
      have : (sortL (Ba.map fun b => b.1)).Nodup := by rw [← hnm]; exact names_nodup OK
      exact (sort_perm _).nodup_iff.1 this
    have hlen : Bs.length = Ba.length := by
      have := congrArg List.length hnm
      rw [sort_len, List.length_map, List.length_map] at this
      exact this
    have hat : ∀ i (hi : i < Ba.length), ¬ atZI Bs Ba[i].1 < 0 := fun i hi => at_mem.2 (by
      rw [hnm, sort_mem]
      exact List.mem_map.2 ⟨Ba[i], List.getElem_mem hi, rfl⟩)
    refine ⟨h1, h2, h3, h4, fun i hi => ⟨(on1_iff.1 (ho i hi)).1, (on1_iff.1 (ho i hi)).2, fun m hm e => hsr i hi m hm e, nodup_one nd i hi⟩, sha_iff.2 ⟨hlen, fun i hi => ?_⟩⟩
    have hr := (on1_iff.1 (ho i hi)).1
    have key : ∀ (a : Nat) (h : a < Bs.length), atZI Bs Ba[i].1 = (a : Int) → Bs[a].2.2 = tgL Ba[i] Ba[i].2.2.2.1 ∧ (0 ≤ Ba[i].2.2.2.2.1 → allB (owL Ba[i]) Bs[a].2.1 = true) := fun a ha e => by
      have := hned i hi
      rw [ned_at ha e, shr_iff hr] at this
      exact this
    exact ⟨hat i hi, fun a ha e => (key a ha e).1, fun a ha e => (key a ha e).2⟩
theorem nme_has {Bs : List DShareBatch} {Ba : List DRunBatch} (h : nmeB Bs (sortL (Ba.map fun b => b.1)) = true) : ∀ i (hi : i < Ba.length), ¬ atZI Bs Ba[i].1 < 0 := fun i hi => at_mem.2 (by
  rw [nme_iff.1 h, sort_mem]
  exact List.mem_map.2 ⟨Ba[i], List.getElem_mem hi, rfl⟩)
end Go.Proofs.YtobchllaopdchacGreat
