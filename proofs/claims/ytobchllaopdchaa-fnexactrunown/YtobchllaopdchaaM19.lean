/-
  Several texts in one.
-/
import Derived.Test.YtobchllaopdchaaVma
import Derived.Test.YtobchllaopdchaaXsb
namespace Go.Proofs.Ytobchllaopdchaa
open Go.RowKit
theorem thO_hit : ∀ {l : List DRunSlot} {x : ByteArray} {q : Nat} (hq : q < l.length), (∀ j (hj : j < l.length), j < q → l[j].1 ≠ x) → l[q].1 = x → thO l x = some l[q].2
  | [], _, _, hq, _, _ => absurd hq (Nat.not_lt_zero _)
  | s :: l, x, 0, _, _, h => by
    have h' : s.1 = x := h
    unfold thO
    rw [if_pos h']; rfl
  | s :: l, x, q + 1, hq, hno, h => by
    have h0 : s.1 ≠ x := hno 0 (by simp) (by omega)
    unfold thO
    rw [if_neg h0]
    have hq' : q < l.length := by simpa using hq
    exact thO_hit (l := l) hq' (fun j hj hjq => hno (j + 1) (by simpa using hj) (by omega)) h
theorem thT_hit {l : List DRunSlot} {x : ByteArray} {q : Nat} (hq : q < l.length) (hno : ∀ j (hj : j < l.length), j < q → eqB l[j].1 x = false) (h : eqB l[q].1 x = true) : thT l x = l[q].2 := by
  unfold thT kyT
  rw [thO_hit hq (fun j hj hjq e => by have := hno j hj hjq; rw [(eqB_iff _ _).2 e] at this; cases this) ((eqB_iff _ _).1 h)]
theorem thT_none {l : List DRunSlot} {x : ByteArray} (hno : ∀ j (hj : j < l.length), eqB l[j].1 x = false) : thT l x = ByteArray.empty := by
  unfold thT kyT
  rw [thO_none (fun s hs e => by
    obtain ⟨j, hj, ej⟩ := List.getElem_of_mem hs
    have := hno j hj
    rw [ej, (eqB_iff _ _).2 e] at this; cases this)]
def thL (sl : List DRunSlot) (l : List ByteArray) : List ByteArray := bothL [] (l.map (thT sl))
theorem thL_take (sl : List DRunSlot) (l : List ByteArray) {k : Nat} (h : k < l.length) : thL sl (l.take (k + 1)) = insR (thL sl (l.take k)) (thT sl (nthB l k)) := by
  unfold thL
  have h' : k < (l.map (thT sl)).length := by simpa using h
  have := both_take [] (l.map (thT sl)) h'
  rw [← List.map_take, ← List.map_take] at this
  rw [this]
  simp [nthB, h]
theorem thL_len (sl : List DRunSlot) (l : List ByteArray) : (thL sl l).length ≤ l.length := by
  have := both_len (l.map (thT sl)) []
  simpa [thL] using this
end Go.Proofs.Ytobchllaopdchaa

namespace Go.Proofs.Ytobchllaopdchaa
open Go.RowKit Go.Sort
theorem nameX_q (s : ByteArray) (wr : World) (hs : s.size ≤ maxLen) (r : Bool) (hr : nameB s = r) (d : Nat) (os : Array Obj) : Calls Try.prog 33 #[.string s] (grow (redrawn wr d) os) fun e w'' => e = .returned (.bool r) ∧ ∃ p : Regrown, w'' = grow (redrawn wr p.d) p.os :=
  Calls.regrown_of ((nameX_any s _ hs).mono fun _ _ ⟨he, hw⟩ => ⟨by subst hr; exact he, by subst hw; exact Below.refl _ _⟩)
def fstN (r : List DRecPhase) : ByteArray := (r.headD default).1
theorem fst_at {r : List DRecPhase} (h : 0 < r.length) : r[0].1 = fstN r := by
  cases r with
  | nil => exact absurd h (Nat.lt_irrefl _)
  | cons p l => rfl
structure SlotP (L : List ByteArray) (sl : List DRunSlot) (i : Nat) (h : i < sl.length) : Prop where
  slot : eqB sl[i].1 (nthB L i) = true
  name : nameB sl[i].2 = true
  other : ∀ k (hk : k < sl.length), k < i → eqB sl[k].2 sl[i].2 = false
structure SlP (L : List ByteArray) (sl : List DRunSlot) : Prop where
  len : L.length = sl.length
  row : ∀ i (h : i < sl.length), SlotP L sl i h
noncomputable def slB (r : List DRecPhase) (sl : List DRunSlot) : Bool := @decide (SlP (sltF 12 r (fstN r)) sl) (Classical.propDecidable _)
theorem sl_yes {r : List DRecPhase} {sl : List DRunSlot} (h : SlP (sltF 12 r (fstN r)) sl) : slB r sl = true := by unfold slB; exact @decide_eq_true _ (Classical.propDecidable _) h
theorem sl_no {r : List DRecPhase} {sl : List DRunSlot} (h : ¬ SlP (sltF 12 r (fstN r)) sl) : slB r sl = false := by unfold slB; exact @decide_eq_false _ (Classical.propDecidable _) h
theorem sl_iff {r : List DRecPhase} {sl : List DRunSlot} : slB r sl = true ↔ SlP (sltF 12 r (fstN r)) sl := by unfold slB; exact @decide_eq_true_iff _ (Classical.propDecidable _)
set_option maxRecDepth 100000 in
set_option maxHeartbeats 8000000 in
theorem slotsOkX_any (S : Nat → Prop) (r : List DRecPhase) (sl : List DRunSlot) (o1 o2 : Option Addr) (n1 k1 n2 k2 : Nat) (w : World) (hr : AtL S w r (.slice o1 n1 k1)) (h : AtL S w sl (.slice o2 n2 k2)) (hS : ∀ b, S b → b < w.heap.size) (hR : RecP r) :
    Calls Try.prog 35 #[.slice o1 n1 k1, .slice o2 n2 k2] w fun e w' => e = .returned (.bool (slB r sl)) ∧ Below w.heap.size w w' := by
  have en1 : r.length = n1 := by obtain ⟨_, _, e, _⟩ := hr; cases e; rfl
  have en : sl.length = n2 := by obtain ⟨_, _, e, _⟩ := h; cases e; rfl
  have hmx : n2 ≤ 9223372036854775807 := by obtain ⟨_, _, e, hf, _⟩ := id h; cases e; have := hf.1; unfold maxLen at this; omega
  have EN : Hid (sl.length ≤ n2 ∧ n2 ≤ sl.length) := ⟨by omega, by omega⟩
  have hr0 : 0 < r.length := by have := hR.1; omega
  have hn1 : 0 < n1 := by omega
  have HF := fst_at hr0
  obtain ⟨bb, off, rfl, e0⟩ : ∃ b off, o1 = some ⟨b, off, none⟩ ∧ w.cell? ⟨b, off, none⟩ = some (.string (fstN r)) := by
    obtain ⟨oa, cap, ev, _, hc⟩ := id hr
    obtain ⟨b, off, eo, hbS, cc, hcell, hat⟩ := hc 0 hr0
    rw [width_DRecPhase] at hcell
    rw [at_DRecPhase, HF] at hat
    cases ev
    exact ⟨b, off, eo, (hcell 0 (by omega) : w.cell? ⟨b, off, none⟩ = some (cc 0)).trans (by rw [hat.1.1])⟩
  have NAM : Hid (∀ i (hi : i < sl.length), ∃ b off, o2 = some ⟨b, off, none⟩ ∧ b < w.heap.size ∧ w.cell? ⟨b, off + i * 2, none⟩ = some (.string sl[i].1) ∧ w.cell? ⟨b, off + i * 2 + 1, none⟩ = some (.string sl[i].2) ∧ sl[i].2.size ≤ maxLen) := fun i hi => by
    obtain ⟨oa, cap, ev, _, hc⟩ := id h
    obtain ⟨b, off, eo, hbS, cc, hcell, hat⟩ := hc i hi
    rw [width_DRunSlot] at hcell
    rw [at_DRunSlot] at hat
    cases ev
    exact ⟨b, off, eo, hS b hbS, (hcell 0 (by omega) : w.cell? ⟨b, off + i * 2, none⟩ = some (cc 0)).trans (by rw [hat.1.1]), (hcell 1 (by omega)).trans (by rw [hat.2.1]), hat.2.2⟩
  obtain ⟨L, hL⟩ : ∃ L, L = sltF 12 r (fstN r) := ⟨_, rfl⟩
  have YES : Hid (SlP L sl → slB r sl = true) := fun h => sl_yes (by rw [← hL]; exact h)
  have NO : Hid (¬ SlP L sl → slB r sl = false) := fun h => sl_no (by rw [← hL]; exact h)
  have hll : L.length ≤ 8192 := by rw [hL]; exact slt_small r (by omega) _
  have CS : Hid (Calls Try.prog 51 #[.slice (some ⟨bb, off, none⟩) n1 k1, .string (fstN r)] w fun e w' => ∃ q, e = .returned q ∧ w'.ownsRow w.heap.size 9 1 q L.length (L.map .string) ∧ Below w.heap.size w w') := by
    rw [hL]; exact sltX_any S r hR 12 _ _ w (Nat.le_refl _) hr hS (fun k hk => by have := hR.1; omega)
  clear hL h hr HF en hr0 en1 hR
  go_enter Try.func35, Try.ntmps35
  go_wp2_with fail
  refine CS.out.mono ?_; rintro e w1 ⟨q, rfl, hq, hb1⟩
  clear e0
  have B1 : Hid (Below w.heap.size w w1) := hb1
  obtain ⟨ol, cl, rfl, hcl⟩ := RdB.of hq
  have LAT : Hid (∀ i, i < L.length → ∃ g, ol = some ⟨g, 0, none⟩ ∧ g < w1.heap.size ∧ w1.cell? ⟨g, i, none⟩ = some (.string (nthB L i))) := hcl
  obtain ⟨nl, enl⟩ : ∃ n, L.length = n := ⟨_, rfl⟩
  rw [enl] at hll
  rw [enl]
  have ENL : Hid (L.length ≤ nl ∧ nl ≤ L.length) := ⟨by omega, by omega⟩
  clear hq hcl enl hb1
  have hsz := B1.out.size
  by_cases hlen : nl = n2
  case neg =>
    go_wp2_with fail
    go_ret
    rw [NO.out (fun h => hlen (by have := h.len; have := EN.out; have := ENL.out; omega))]
    exact ⟨rfl, B1.out⟩
  subst hlen
  go_wp2_with fail
  go_loopw [6] (fun i wr => ∃ k : Nat, k ≤ nl ∧ i = .int .i64 k ∧ Hid (∀ j (hj : j < sl.length), j < k → SlotP L sl j hj) ∧ Hid (Below w1.heap.size w1 wr)) (fun i _ => nl - (intOf i).toNat)
  case atStart => exact ⟨0, Nat.zero_le _, rfl, fun _ _ h => by omega, Below.refl _ _⟩
  case round =>
    obtain ⟨k, hk, rfl, hall, hbel⟩ := hrel
    have hs := hbel.out.size
    have BW : Hid (Below w.heap.size w wr) := B1.out.trans (hbel.out.mono B1.out.size)
    by_cases hlt : k < nl
    case neg =>
      go_wp2_with fail
      go_ret
      rw [YES.out ⟨by have := EN.out; have := ENL.out; omega, fun i hi => hall.out i hi (by have := EN.out; omega)⟩]
      exact ⟨rfl, BW.out⟩
    have hks : k < sl.length := by have := EN.out; omega
    obtain ⟨b, of2, rfl, hbw, c0, c1, z1⟩ := NAM.out k hks
    obtain ⟨g, rfl, hg, cg⟩ := LAT.out k (by have := ENL.out; omega)
    obtain ⟨x, ex⟩ : ∃ x, sl[k].1 = x := ⟨_, rfl⟩
    obtain ⟨t, et⟩ : ∃ t, sl[k].2 = t := ⟨_, rfl⟩
    have ET : Hid (sl[k].2 = t) := et
    rw [ex] at c0
    rw [et] at c1 z1
    obtain ⟨y, ey⟩ : ∃ y, nthB L k = y := ⟨_, rfl⟩
    rw [ey] at cg
    have x0 := (BW.out.cell (p := ⟨b, of2 + k * 2, none⟩) hbw).trans c0
    have x1 := (BW.out.cell (p := ⟨b, of2 + k * 2 + 1, none⟩) hbw).trans c1
    have xg := (hbel.out.cell (p := ⟨g, k, none⟩) hg).trans cg
    have q0 := fun d os => cell_regrown x0 d os
    have q1 := fun d os => cell_regrown x1 d os
    have qg := fun d os => cell_regrown xg d os
    have X1 : Hid (w.cell? ⟨b, of2 + k * 2 + 1, none⟩ = some (.string t)) := c1
    clear c0 c1 cg x0 x1 xg
    have HZ : Hid (t.size ≤ maxLen) := z1
    clear z1
    cases c1 : (x.toList == y.toList)
    · have hp : ¬ SlP L sl := fun h => by
        have := (h.row k hks).slot
        rw [ex, ey] at this
        simp [eqB, c1] at this
      have HP : Hid _ := hp
      clear ex et ey hp
      go_wp2_with fail
      refine wp_region_quiet_below (by kernel_rfl) (by kernel_rfl) ?_
      repeat (first | go_big_quiet_step (fail) | quiet_step (fail))
      refine wpQuiet_nil ?_
      intro _ hw'
      obtain ⟨⟨dq, osq⟩, hw''⟩ := hw'
      subst hw''
      go_wp2_with fail
      go_ret
      rw [NO.out HP.out]
      exact ⟨rfl, BW.out.trans ((below_regrown wr dq osq).mono BW.out.size)⟩
    cases c2 : nameB t
    · have hp : ¬ SlP L sl := fun h => by
        have := (h.row k hks).name
        rw [et, c2] at this
        cases this
      have HP : Hid _ := hp
      clear ex et ey hp
      go_wp2_with fail
      refine wp_region_quiet_below (by kernel_rfl) (by kernel_rfl) ?_
      repeat (first | go_big_quiet_step (with_reducible exact nameX_q _ _ HZ.out _ c2 _ _) | quiet_step (with_reducible exact nameX_q _ _ HZ.out _ c2 _ _))
      refine wpQuiet_nil ?_
      intro _ hw'
      obtain ⟨⟨dq, osq⟩, hw''⟩ := hw'
      subst hw''
      go_wp2_with fail
      go_ret
      rw [NO.out HP.out]
      exact ⟨rfl, BW.out.trans ((below_regrown wr dq osq).mono BW.out.size)⟩
    have FINE : Hid (eqB sl[k].1 (nthB L k) = true ∧ nameB sl[k].2 = true) := ⟨by rw [ex, ey]; simp [eqB, c1], by rw [et]; exact c2⟩
    clear ex et ey
    go_wp2_with fail
    refine wp_region_quiet_below (by kernel_rfl) (by kernel_rfl) ?_
    repeat (first | go_big_quiet_step (with_reducible exact nameX_q _ _ HZ.out _ c2 _ _) | quiet_step (with_reducible exact nameX_q _ _ HZ.out _ c2 _ _))
    refine wpQuiet_nil ?_
    intro _ hw'
    obtain ⟨⟨dq, osq⟩, hw''⟩ := hw'
    subst hw''
    have BY : Hid (Below w1.heap.size w1 (grow (redrawn wr dq) osq)) := hbel.out.trans ((below_regrown wr dq osq).mono hs)
    obtain ⟨Y, hY⟩ : ∃ Y, Y = grow (redrawn wr dq) osq := ⟨_, rfl⟩
    rw [← hY] at BY ⊢
    clear hY q0 q1 qg
    go_wp2_with fail
    go_loopw [7] (fun i wr => ∃ j : Nat, j ≤ k ∧ i = .int .i64 j ∧ Hid (∀ m (hm : m < sl.length), m < j → eqB sl[m].2 sl[k].2 = false) ∧ Hid (Below w1.heap.size w1 wr)) (fun i _ => k - (intOf i).toNat)
    case atStart => exact ⟨0, Nat.zero_le _, rfl, fun _ _ h => by omega, BY.out⟩
    case round =>
      obtain ⟨j, hj, rfl, hno, hbk⟩ := hrel
      have sk := hbk.out.size
      have BV : Hid (Below w.heap.size w wr) := B1.out.trans (hbk.out.mono hsz)
      by_cases hjq : j < k
      case neg =>
        obtain rfl : j = k := by omega
        go_wp2_with fail
        go_roundw
        case rel =>
          refine ⟨j + 1, by omega, by go_num, fun i hi hiq => ?_, hbk.out⟩
          by_cases e : i = j
          · subst e
            exact ⟨FINE.out.1, FINE.out.2, fun m hm hmk => hno.out m hm hmk⟩
          · exact hall.out i hi (by omega)
        case measure => simp [intOf]; omega
      have hjs : j < sl.length := by have := EN.out; omega
      obtain ⟨b', of', eo, _, _, d1, _⟩ := NAM.out j hjs
      cases eo
      obtain ⟨u, eu⟩ : ∃ u, sl[j].2 = u := ⟨_, rfl⟩
      rw [eu] at d1
      have x1 := (BV.out.cell (p := ⟨b, of2 + k * 2 + 1, none⟩) hbw).trans X1.out
      have y1 := (BV.out.cell (p := ⟨b, of2 + j * 2 + 1, none⟩) hbw).trans d1
      have q1 := fun d os => cell_regrown x1 d os
      have q2 := fun d os => cell_regrown y1 d os
      clear x1 y1 d1
      cases c3 : (u.toList == t.toList)
      · have hp : eqB sl[j].2 sl[k].2 = false := by rw [eu, ET.out]; simpa [eqB] using c3
        have HP : Hid _ := hp
        clear eu hp
        go_wp2_with fail
        refine wp_region_quiet_below (by kernel_rfl) (by kernel_rfl) ?_
        repeat (first | go_big_quiet_step (fail) | quiet_step (fail))
        refine wpQuiet_nil ?_
        intro _ hw'
        obtain ⟨⟨dq, osq⟩, hw''⟩ := hw'
        subst hw''
        go_wp2_with fail
        go_roundw
        case rel => exact ⟨j + 1, by omega, by go_num, fun m hm hmj => by
          by_cases e : m = j
          · subst e; exact HP.out
          · exact hno.out m hm (by omega), hbk.out.trans ((below_regrown wr dq osq).mono sk)⟩
        case measure => simp [intOf]; omega
      · have hp : ¬ SlP L sl := fun h => by
          have := (h.row k hks).other j hjs hjq
          rw [eu, ET.out] at this
          simp [eqB] at this
          simp [this] at c3
        have HP : Hid _ := hp
        clear eu hp
        go_wp2_with fail
        refine wp_region_quiet_below (by kernel_rfl) (by kernel_rfl) ?_
        repeat (first | go_big_quiet_step (fail) | quiet_step (fail))
        refine wpQuiet_nil ?_
        intro _ hw'
        obtain ⟨⟨dq, osq⟩, hw''⟩ := hw'
        subst hw''
        go_wp2_with fail
        go_ret
        rw [NO.out HP.out]
        exact ⟨rfl, BV.out.trans ((below_regrown wr dq osq).mono BV.out.size)⟩
end Go.Proofs.Ytobchllaopdchaa
