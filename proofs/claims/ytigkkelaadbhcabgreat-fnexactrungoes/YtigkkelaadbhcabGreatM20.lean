/-
  Several texts in one.
-/
import Derived.Test.YtigkkelaadbhcabGreatM19
import Derived.Test.YtigkkelaadbhcabGreatM7
import Derived.Test.YtigkkelaadbhcabGreatM1
import Derived.Laws.EntriesVeiled
namespace Go.Proofs.YtigkkelaadbhcabGreat
open Go.RowKit Go.Sort
theorem inX_q (n lo hi : Int) (wr : World) (r : Bool) (hr : inB n lo hi = r) (d : Nat) (os : Array Obj) : Calls Tryz.prog 34 #[.int .i64 n, .int .i64 lo, .int .i64 hi] (grow (redrawn wr d) os) fun e w'' => e = .returned (.bool r) ∧ ∃ p : Regrown, w'' = grow (redrawn wr p.d) p.os :=
  Calls.regrown_of ((inX_any n lo hi _).mono fun _ _ ⟨he, hw⟩ => ⟨by subst hr; exact he, by subst hw; exact Below.refl _ _⟩)
def wiX (r : List DRecPhase) (x : ByteArray) : Int := (phX r x).2.2.2.2.2.1
noncomputable def runB (b : DRunBatch) : Bool :=
  nameB b.1 && recB b.2.1 && slB b.2.1 b.2.2.1 && decide (1 ≤ b.2.2.2.2.2) && decide (0 ≤ atI b.2.1 b.2.2.2.1) && inB b.2.2.2.2.1 (-1) (wiX b.2.1 b.2.2.2.1 - 1)
set_option maxRecDepth 100000 in
set_option maxHeartbeats 8000000 in
theorem runX_any (S : Nat → Prop) (nm : ByteArray) (r : List DRecPhase) (sl : List DRunSlot) (at_ : ByteArray) (si st : Int) (o1 o2 : Option Addr) (n1 k1 n2 k2 : Nat) (w : World) (hn : nm.size ≤ maxLen) (hr : AtL S w r (.slice o1 n1 k1)) (h : AtL S w sl (.slice o2 n2 k2)) (hS : ∀ b, S b → b < w.heap.size) :
    Calls Tryz.prog 37 #[.agg #[.string nm, .slice o1 n1 k1, .slice o2 n2 k2, .string at_, .int .i64 si, .int .i64 st]] w fun e w' => e = .returned (.bool (runB (nm, r, sl, at_, si, st))) ∧ Below w.heap.size w w' := by
  have HN : Hid (nm.size ≤ maxLen) := hn
  obtain ⟨W, EW, BW, RW, sW⟩ := box_new w #[.string nm, .slice o1 n1 k1, .slice o2 n2 k2, .string at_, .int .i64 si, .int .i64 st] 52
  have BOX : Hid (∀ u, Below W.heap.size W u → u.heap[w.heap.size]? = some (.cells #[.string nm, .slice o1 n1 k1, .slice o2 n2 k2, .string at_, .int .i64 si, .int .i64 st] 52 (0, 0)) ∧ Below w.heap.size w u) := fun u hu => ⟨(hu.block _ (by omega)).trans RW.out, BW.out.trans (hu.mono (by omega))⟩
  have HR : Hid _ := hr.ups hS
  have HA : Hid _ := h.ups hS
  have HS : Hid _ := lt_up hS
  have PH : Hid (∀ k : Nat, atI r at_ = (k : Int) → k < n1 ∧ ∃ b off, o1 = some ⟨b, off, none⟩ ∧ b < w.heap.size ∧ w.cell? ⟨b, off + k * 8 + 5, none⟩ = some (.int .i64 (wiX r at_)) ∧ -9223372036854775808 ≤ wiX r at_ ∧ wiX r at_ ≤ 9223372036854775807) := fun k hk => by
    rcases at_cases r at_ with e | ⟨k', hk', e, _⟩
    · omega
    obtain rfl : k' = k := by omega
    obtain ⟨oa, cap, ev, _, hc⟩ := id hr
    obtain ⟨b, off, eo, hbS, cc, hcell, hat⟩ := hc k' hk'
    rw [width_DRecPhase] at hcell
    rw [at_DRecPhase] at hat
    have ew : wiX r at_ = r[k'].2.2.2.2.2.1 := by unfold wiX; rw [ph_at hk' e]
    cases ev
    refine ⟨hk', b, off, eo, hS b hbS, (hcell 5 (by omega)).trans (by rw [hat.2.2.2.2.2.1.1, ew]), ?_⟩
    rw [ew]
    exact hat.2.2.2.2.2.1.2
  have POS : Hid (recB r = true → 0 ≤ atI r at_ → 1 ≤ wiX r at_) := fun hrb h0 => by
    rcases at_cases r at_ with e | ⟨k', hk', e, _⟩
    · omega
    · have := (ph_name (step_of (rec_iff.1 hrb) hk').1).2.2.1
      have ew : wiX r at_ = r[k'].2.2.2.2.2.1 := by unfold wiX; rw [ph_at hk' e]
      rw [ew]
      omega
  clear h hr hS hn
  obtain ⟨R, hR⟩ : ∃ R, R = runB (nm, r, sl, at_, si, st) := ⟨_, rfl⟩
  have ER : Hid (R = (nameB nm && recB r && slB r sl && decide (1 ≤ st) && decide (0 ≤ atI r at_) && inB si (-1) (wiX r at_ - 1))) := hR
  rw [← hR]
  clear hR
  have h0 := fun u (hu : Below W.heap.size W u) => cell_row (BOX.out u hu).1
  have Y : Hid (∀ u, Below W.heap.size W u → u.cell? ⟨w.heap.size, 0, none⟩ = some (.string nm) ∧ u.cell? ⟨w.heap.size, 1, none⟩ = some (.slice o1 n1 k1) ∧ u.cell? ⟨w.heap.size, 2, none⟩ = some (.slice o2 n2 k2) ∧ u.cell? ⟨w.heap.size, 3, none⟩ = some (.string at_) ∧ u.cell? ⟨w.heap.size, 4, none⟩ = some (.int .i64 si) ∧ u.cell? ⟨w.heap.size, 5, none⟩ = some (.int .i64 st)) := fun u hu =>
    ⟨(h0 u hu 0 _ rfl).1, (h0 u hu 1 _ rfl).1, (h0 u hu 2 _ rfl).1, (h0 u hu 3 _ rfl).1, (h0 u hu 4 _ rfl).1, (h0 u hu 5 _ rfl).1⟩
  clear h0
  obtain ⟨y0, y1, y2, y3, y4, y5⟩ := Y.out W (Below.refl _ _)
  go_enter Tryz.func37, Tryz.ntmps37
  go_upto_region 1 with fail
  rw [← EW.out]
  go_wp2_with fail
  refine (nameX_any nm _ HN.out).mono ?_; rintro e w1 ⟨rfl, rfl⟩
  cases c0 : nameB nm
  · have er : R = false := by rw [ER.out, c0]; simp
    clear y1 y2 y3 y4 y5
    go_wp2_with fail
    go_ret
    rw [er]
    exact ⟨rfl, BW.out⟩
  have BWW := BW.out
  go_wp2_with fail
  refine (okX_any S r _ w1 (HR.out _ BW.out) (HS.out _ BW.out)).mono ?_; rintro e w2 ⟨rfl, hb2⟩
  have B2 : Hid (Below w1.heap.size w1 w2) := hb2
  clear y0 y1 y2 y3 y4 y5 hb2
  obtain ⟨y0, y1, y2, y3, y4, y5⟩ := Y.out w2 B2.out
  cases c1 : recB r
  · have er : R = false := by rw [ER.out, c1]; simp
    clear y0 y1 y2 y3 y4 y5
    go_wp2_with fail
    go_ret
    rw [er]
    exact ⟨rfl, (BOX.out w2 B2.out).2⟩
  have bw2 := (BOX.out w2 B2.out).2
  have BW2 : Hid (Below w.heap.size w w2) := bw2
  clear bw2 BWW
  go_wp2_with fail
  refine (slotsOkX_any S r sl o1 o2 n1 k1 n2 k2 w2 (HR.out _ BW2.out) (HA.out _ BW2.out) (HS.out _ BW2.out) (rec_iff.1 c1)).mono ?_; rintro e w3 ⟨rfl, hb3⟩
  have B3 : Hid (Below w1.heap.size w1 w3) := B2.out.trans (hb3.mono B2.out.size)
  clear y0 y1 y2 y3 y4 y5 hb3
  obtain ⟨y0, y1, y2, y3, y4, y5⟩ := Y.out w3 B3.out
  have BW3 : Hid (Below w.heap.size w w3) := (BOX.out w3 B3.out).2
  cases c2 : slB r sl
  · have er : R = false := by rw [ER.out, c2]; simp
    clear y0 y1 y2 y3 y4 y5
    go_wp2_with fail
    go_ret
    rw [er]
    exact ⟨rfl, BW3.out⟩
  by_cases c3 : st < 1
  · have er : R = false := by rw [ER.out, decide_eq_false (by omega : ¬ 1 ≤ st)]; simp
    go_wp2_with fail
    go_ret
    rw [er]
    exact ⟨rfl, BW3.out⟩
  have c3' : decide (1 ≤ st) = true := decide_eq_true (by omega)
  go_wp2_with fail
  refine (atX_any S r _ at_ w3 (HR.out _ BW3.out)).mono ?_; rintro e w4 ⟨rfl, rfl⟩
  have P := POS.out c1
  obtain ⟨ex, hex⟩ : ∃ k : Int, k = atI r at_ := ⟨_, rfl⟩
  by_cases c4 : atI r at_ < 0
  · have er : R = false := by rw [ER.out, decide_eq_false (by omega : ¬ 0 ≤ atI r at_)]; simp
    have d4 : decide (0 ≤ ex) = false := decide_eq_false (by omega)
    rw [← hex]
    clear P hex y0 y1 y2 y3 y5
    go_wp2_with fail
    refine wp_region_quiet_below (by kernel_rfl) (by kernel_rfl) ?_
    repeat (first | go_big_quiet_step (fail) | quiet_step (fail))
    refine wpQuiet_nil ?_
    intro _ hw'
    obtain ⟨⟨dq, osq⟩, hw''⟩ := hw'
    subst hw''
    go_wp2_with fail
    go_ret
    rw [er]
    exact ⟨rfl, BW3.out.trans ((below_regrown w4 dq osq).mono BW3.out.size)⟩
  obtain ⟨k, hk⟩ : ∃ k : Nat, atI r at_ = (k : Int) := ⟨(atI r at_).toNat, by omega⟩
  obtain ⟨hkn, b, off, rfl, hb, ce, hl, hh⟩ := PH.out k hk
  have hpos := P (by omega)
  obtain ⟨v, hv⟩ : ∃ v, v = wiX r at_ := ⟨_, rfl⟩
  rw [← hv] at ce hl hh hpos
  have x5 := (BW3.out.cell (p := ⟨b, off + k * 8 + 5, none⟩) hb).trans ce
  have c5 : inB si (-1) (v - 1) = inB si (-1) (v - 1) := rfl
  obtain ⟨I, hI⟩ : ∃ I, inB si (-1) (v - 1) = I := ⟨_, rfl⟩
  have er : R = I := by rw [ER.out, c0, c1, c2, c3', decide_eq_true (by omega : 0 ≤ atI r at_), ← hv, hI]; simp
  have q1 := fun d os => cell_regrown y1 d os
  have q4 := fun d os => cell_regrown y4 d os
  have q5 := fun d os => cell_regrown x5 d os
  rw [hk]
  clear P hex c5 hv x5 ce y0 y1 y2 y3 y4 y5 hk c4
  go_wp2_with fail
  refine wp_region_quiet_below (by kernel_rfl) (by kernel_rfl) ?_
  repeat (first | go_big_quiet_step (with_reducible exact inX_q _ _ _ _ _ hI _ _) | quiet_step (with_reducible exact inX_q _ _ _ _ _ hI _ _))
  refine wpQuiet_nil ?_
  intro _ hw'
  obtain ⟨⟨dq, osq⟩, hw''⟩ := hw'
  subst hw''
  go_wp2_with fail
  go_ret
  rw [er]
  exact ⟨rfl, BW3.out.trans ((below_regrown w4 dq osq).mono BW3.out.size)⟩
theorem run_rec {b : DRunBatch} (h : runB b = true) : RecP b.2.1 ∧ SlP (sltF 12 b.2.1 (fstN b.2.1)) b.2.2.1 := by
  unfold runB at h
  simp only [Bool.and_eq_true] at h
  exact ⟨rec_iff.1 h.1.1.1.1.2, sl_iff.1 h.1.1.1.2⟩
end Go.Proofs.YtigkkelaadbhcabGreat

namespace Go.Proofs.YtigkkelaadbhcabGreat
open Go.RowKit
set_option maxHeartbeats 400000 in
theorem inZ_any (n lo hi : Int) (w : World) : Calls Tryz.prog 166 #[.int .i64 n, .int .i64 lo, .int .i64 hi] w fun e w' => e = .returned (.bool (inB n lo hi)) ∧ w' = w := by
  by_cases h1 : lo ≤ n
  · by_cases h2 : n ≤ hi
    · have hw : inB n lo hi = true := by simp [inB, h1, h2]
      rw [hw]
      go_enter Tryz.func166, Tryz.ntmps166
      go_wp2
      go_ret
      exact ⟨rfl, rfl⟩
    · have hw : inB n lo hi = false := by simp [inB]; omega
      rw [hw]
      go_enter Tryz.func166, Tryz.ntmps166
      go_wp2
      go_ret
      exact ⟨rfl, rfl⟩
  · have hw : inB n lo hi = false := by simp [inB]; omega
    rw [hw]
    go_enter Tryz.func166, Tryz.ntmps166
    go_wp2
    go_ret
    exact ⟨rfl, rfl⟩
set_option maxRecDepth 100000 in
set_option maxHeartbeats 1000000 in
theorem nameZ_any (s : ByteArray) (w : World) (hs : s.size ≤ maxLen) : Calls Tryz.prog 127 #[.string s] w fun e w' => e = .returned (.bool (nameB s)) ∧ w' = w := by
  unfold maxLen at hs
  by_cases hl : 1 ≤ s.size ∧ s.size ≤ 8
  · have hin : inB (s.size : Int) 1 8 = true := by simp [inB]; omega
    go_enter Tryz.func127, Tryz.ntmps127
    go_wp2_with (go_at_call 166; refine (inZ_any _ _ _ _).mono ?_; rintro e w1 ⟨rfl, rfl⟩; rw [hin])
    go_loop [3] (fun i => ∃ k : Nat, k ≤ s.size ∧ i = .int .i64 k ∧ Hid (∀ j (hj : j < s.size), j < k → okn s[j].toNat = true)) (fun i => s.size - (intOf i).toNat)
    case atStart => exact ⟨0, Nat.zero_le _, rfl, fun _ _ h => by omega⟩
    case round =>
      obtain ⟨k, hk, rfl, hno⟩ := hrel
      by_cases hlt : k < s.size
      · have hb := s[k].toNat_lt
        have HN : Hid (okn s[k].toNat = false → nameB s = false) := fun h => name_bad hlt h
        rcases (show (s[k].toNat : Int) < 45 ∨ (s[k].toNat : Int) = 45 ∨ (45 < (s[k].toNat : Int) ∧ (s[k].toNat : Int) < 48) ∨ (48 ≤ (s[k].toNat : Int) ∧ (s[k].toNat : Int) ≤ 57) ∨ (57 < (s[k].toNat : Int) ∧ (s[k].toNat : Int) < 97) ∨ (97 ≤ (s[k].toNat : Int) ∧ (s[k].toNat : Int) ≤ 122) ∨ 122 < (s[k].toNat : Int) by omega) with h | h | ⟨h, h'⟩ | ⟨h, h'⟩ | ⟨h, h'⟩ | ⟨h, h'⟩ | h
        · have h45 : ((s[k].toNat : Int) == 45) = false := by simp; omega
          have HO : Hid (okn s[k].toNat = false) := by simp [Hid, okn]; omega
          go_wp2
          rw [HN.out HO.out]
          go_ret
          exact ⟨rfl, rfl⟩
        · have h45 : ((s[k].toNat : Int) == 45) = true := by rw [h]; rfl
          have HO : Hid (okn s[k].toNat = true) := by rw [h]; rfl
          have ha : (s[k].toNat : Int) ≤ 45 := by omega
          clear h
          go_wp2
          go_round
          case rel => exact ⟨k + 1, by omega, by go_num, fun j hj hjk => by
            by_cases e : j = k
            · subst e; exact HO.out
            · exact hno.out j hj (by omega)⟩
          case measure => simp [intOf]; omega
        · have h45 : ((s[k].toNat : Int) == 45) = false := by simp; omega
          have HO : Hid (okn s[k].toNat = false) := by simp [Hid, okn]; omega
          go_wp2
          rw [HN.out HO.out]
          go_ret
          exact ⟨rfl, rfl⟩
        · have h45 : ((s[k].toNat : Int) == 45) = false := by simp; omega
          have HO : Hid (okn s[k].toNat = true) := by simp [Hid, okn]; omega
          go_wp2
          go_round
          case rel => exact ⟨k + 1, by omega, by go_num, fun j hj hjk => by
            by_cases e : j = k
            · subst e; exact HO.out
            · exact hno.out j hj (by omega)⟩
          case measure => simp [intOf]; omega
        · have h45 : ((s[k].toNat : Int) == 45) = false := by simp; omega
          have HO : Hid (okn s[k].toNat = false) := by simp [Hid, okn]; omega
          have d57 : decide ((s[k].toNat : Int) ≤ 57) = false := by simp; omega
          go_wp2
          rw [HN.out HO.out]
          go_ret
          exact ⟨rfl, rfl⟩
        · have h45 : ((s[k].toNat : Int) == 45) = false := by simp; omega
          have HO : Hid (okn s[k].toNat = true) := by simp [Hid, okn]; omega
          go_wp2
          go_round
          case rel => exact ⟨k + 1, by omega, by go_num, fun j hj hjk => by
            by_cases e : j = k
            · subst e; exact HO.out
            · exact hno.out j hj (by omega)⟩
          case measure => simp [intOf]; omega
        · have h45 : ((s[k].toNat : Int) == 45) = false := by simp; omega
          have HO : Hid (okn s[k].toNat = false) := by simp [Hid, okn]; omega
          have d57 : decide ((s[k].toNat : Int) ≤ 57) = false := by simp; omega
          have d122 : decide ((s[k].toNat : Int) ≤ 122) = false := by simp; omega
          go_wp2
          rw [HN.out HO.out]
          go_ret
          exact ⟨rfl, rfl⟩
      · go_wp2
        go_ret
        have hkn : k = s.size := by omega
        subst hkn
        rw [name_all hl (fun j hj => hno.out j hj hj)]
        exact ⟨rfl, rfl⟩
  · have hin : inB (s.size : Int) 1 8 = false := by simp [inB]; omega
    rw [name_short hl]
    go_enter Tryz.func127, Tryz.ntmps127
    go_wp2_with (go_at_call 166; refine (inZ_any _ _ _ _).mono ?_; rintro e w1 ⟨rfl, rfl⟩; rw [hin])
    go_ret
    exact ⟨rfl, rfl⟩
set_option maxRecDepth 100000 in
set_option maxHeartbeats 8000000 in
theorem hasZ_any (S : Nat → Prop) (v : Value) (l : List ByteArray) (x : ByteArray) (w : World) (h : AtL S w l v) :
    Calls Tryz.prog 103 #[v, .string x] w fun e w' => e = .returned (.bool (hasB l x)) ∧ Below w.heap.size w w' := by
  obtain ⟨oa, cap, rfl, hn, hc⟩ := h
  obtain ⟨n, en⟩ : ∃ n, l.length = n := ⟨_, rfl⟩
  rw [en] at hn
  rw [en]
  unfold maxLen at hn
  have HC : Hid _ := hc
  clear hc
  go_enter Tryz.func103, Tryz.ntmps103
  go_wp2
  go_loop [5] (fun i => ∃ k : Nat, k ≤ n ∧ i = .int .i64 k ∧ Hid (∀ j (hj : j < l.length), j < k → (fun f => eqB f x) l[j] = false)) (fun i => n - (intOf i).toNat)
  case atStart => exact ⟨0, Nat.zero_le _, rfl, fun _ _ h => by omega⟩
  case round =>
    obtain ⟨k, hk, rfl, hno⟩ := hrel
    by_cases hlt : k < n
    · obtain ⟨b, off, rfl, hbS, cc, hcell, hat⟩ := HC.out k (by omega)
      rw [width_str] at hcell
      have e0 : w.cell? ⟨b, off + k, none⟩ = some (cc 0) := by simpa using hcell 0 (by omega)
      clear hcell
      rw [at_str] at hat
      rw [hat.1] at e0
      clear hat
      obtain ⟨f, ef⟩ : ∃ f, l[k]'(by omega) = f := ⟨_, rfl⟩
      rw [ef] at e0
      cases c0 : (f.toList == x.toList)
      · have hp : (fun f => eqB f x) (l[k]'(by omega)) = false := by rw [ef]; simp [eqB, c0]
        go_wp2
        go_round
        case rel => exact ⟨k + 1, by omega, by go_num, fun j hj hjk => by
          by_cases e : j = k
          · subst e; exact hp
          · exact hno.out j hj (by omega)⟩
        case measure => simp [intOf]; omega
      · have hp : (fun f => eqB f x) (l[k]'(by omega)) = true := by rw [ef]; simp [eqB, c0]
        go_wp2
        have hr : hasB l x = true := any_yes (p := fun f => eqB f x) (by omega) hp
        rw [hr]
        go_ret
        exact ⟨rfl, (Below.refl _ _)⟩
    · have hkn : k = n := by omega
      subst hkn
      go_wp2
      go_ret
      have hr : hasB l x = false := any_no (p := fun f => eqB f x) (fun j hj => hno.out j hj (by omega))
      rw [hr]
      exact ⟨rfl, (Below.refl _ _)⟩
open Go.Sort in
theorem nameZ_q (s : ByteArray) (wr : World) (hs : s.size ≤ maxLen) (r : Bool) (hr : nameB s = r) (d : Nat) (os : Array Obj) : Calls Tryz.prog 127 #[.string s] (grow (redrawn wr d) os) fun e w'' => e = .returned (.bool r) ∧ ∃ p : Regrown, w'' = grow (redrawn wr p.d) p.os :=
  Calls.regrown_of ((nameZ_any s _ hs).mono fun _ _ ⟨he, hw⟩ => ⟨by subst hr; exact he, by subst hw; exact Below.refl _ _⟩)
def shareB (a b : List ByteArray) : Bool := a.any fun x => hasB b x
set_option maxRecDepth 100000 in
set_option maxHeartbeats 8000000 in
theorem shareZ_any (S : Nat → Prop) (va vb : Value) (a b : List ByteArray) (w : World) (ha : AtL S w a va) (hb : AtL S w b vb) (hS : ∀ b, S b → b < w.heap.size) :
    Calls Tryz.prog 129 #[va, vb] w fun e w' => e = .returned (.bool (shareB a b)) ∧ Below w.heap.size w w' := by
  obtain ⟨oa, cap, rfl, hn, hc⟩ := ha
  obtain ⟨n, en⟩ : ∃ n, a.length = n := ⟨_, rfl⟩
  rw [en] at hn
  rw [en]
  unfold maxLen at hn
  have HC : Hid _ := hc
  have HB : Hid (AtL S w b vb) := hb
  clear hc hb
  go_enter Tryz.func129, Tryz.ntmps129
  go_wp2
  go_loopw [5] (fun i wr => ∃ k : Nat, k ≤ n ∧ i = .int .i64 k ∧ Hid (∀ j (hj : j < a.length), j < k → hasB b a[j] = false) ∧ Hid (Below w.heap.size w wr)) (fun i _ => n - (intOf i).toNat)
  case atStart => exact ⟨0, Nat.zero_le _, rfl, fun _ _ h => by omega, Below.refl _ _⟩
  case round =>
    obtain ⟨k, hk, rfl, hno, hbel⟩ := hrel
    have hs := hbel.out.size
    by_cases hlt : k < n
    · obtain ⟨q, off, rfl, hqS, cc, hcell, hat⟩ := HC.out k (by omega)
      have hq := hS q hqS
      rw [width_str] at hcell
      have e0 : wr.cell? ⟨q, off + k, none⟩ = some (cc 0) := (hbel.out.cell (p := ⟨q, off + k, none⟩) hq).trans (by have hq := hcell 0 (by omega); first | exact hq | simpa using hq)
      rw [at_str] at hat
      rw [hat.1] at e0
      clear hcell hat
      obtain ⟨f, ef⟩ : ∃ f, a[k]'(by omega) = f := ⟨_, rfl⟩
      rw [ef] at e0
      cases hy : hasB b f
      all_goals
        go_wp2_with (go_at_call 103; refine (hasZ_any S vb b f _ (HB.out.same (Same.of_below hbel.out hS))).mono ?_; rintro e w1 ⟨rfl, hb1⟩; rw [hy])
      · go_roundw
        case rel => exact ⟨k + 1, by omega, by go_num, fun j hj hjk => by
          by_cases e : j = k
          · subst e; rw [ef]; exact hy
          · exact hno.out j hj (by omega), hbel.out.trans (hb1.mono hs)⟩
        case measure => simp [intOf]; omega
      · rw [show shareB a b = true from any_yes (k := k) (by omega) (by rw [ef]; exact hy)]
        go_ret
        exact ⟨rfl, hbel.out.trans (hb1.mono hs)⟩
    · go_wp2
      rw [show shareB a b = false from any_no (fun j hj => hno.out j hj (by omega))]
      go_ret
      exact ⟨rfl, hbel.out⟩
set_option maxRecDepth 100000 in
set_option maxHeartbeats 8000000 in
theorem thingsZ_any (S : Nat → Prop) (v : Value) (l : List ByteArray) (w : World) (h : AtL S w l v) (hS : ∀ b, S b → b < w.heap.size) :
    Calls Tryz.prog 126 #[v] w fun e w' => e = .returned (.bool (okB 8 (tst nameB ltB) l)) ∧ Below w.heap.size w w' := by
  obtain ⟨oa, cap, rfl, hn, hc⟩ := h
  obtain ⟨n, en⟩ : ∃ n, l.length = n := ⟨_, rfl⟩
  rw [en] at hn
  rw [en]
  unfold maxLen at hn
  have HC : Hid _ := hc
  clear hc
  by_cases hl : n ≤ 8
  · have d0 : decide ((8 : Int) < (n : Int)) = false := by simp; omega
    go_enter Tryz.func126, Tryz.ntmps126
    go_wp2
    go_loopw [3] (fun i wr => ∃ q : Nat, q ≤ n ∧ i = .int .i64 q ∧ Hid (∀ j (hj : j < l.length), j < q → (tst nameB ltB) (prevO l j) l[j] = true) ∧ Hid (Below w.heap.size w wr)) (fun i _ => n - (intOf i).toNat)
    case atStart => exact ⟨0, Nat.zero_le _, rfl, fun _ _ h => by omega, Below.refl _ _⟩
    case round =>
      obtain ⟨q, hq, rfl, hall, hbel⟩ := hrel
      have hs := hbel.out.size
      by_cases hlt : q < n
      · rcases Nat.eq_zero_or_pos q with rfl | hpos
        · have _u := trivial
          obtain ⟨b, off, rfl, hbS, cc, hcell, hat⟩ := HC.out 0 (by omega)
          have hb := hS b hbS
          rw [width_str] at hcell
          have e0 : wr.cell? ⟨b, off, none⟩ = some (cc 0) := (hbel.out.cell (p := ⟨b, off, none⟩) hb).trans (by have hq := hcell 0 (by omega); first | exact hq | simpa using hq)
          rw [at_str] at hat
          rw [hat.1] at e0
          have ez0 := hat.2
          clear hcell hat
          obtain ⟨f, ef⟩ : ∃ f, l[0]'(by omega) = f := ⟨_, rfl⟩
          rw [ef] at e0 ez0
          have qe0 := fun d os => cell_regrown e0 d os
          cases c0 : nameB f
          · have hp : (tst nameB ltB) (prevO l (0)) (l[0]'(by omega)) = false := by
              rw [prev_zero l, ef]
              show (nameB f && true) = _
              rw [c0]
              rfl
            go_wp2
            refine wp_region_quiet_below (by kernel_rfl) (by kernel_rfl) ?_
            repeat (first | go_big_quiet_step (with_reducible exact nameZ_q _ _ ez0 _ c0 _ _) | quiet_step (with_reducible exact nameZ_q _ _ ez0 _ c0 _ _))
            refine wpQuiet_nil ?_
            intro _ hw'
            obtain ⟨⟨dq, osq⟩, hw''⟩ := hw'
            subst hw''
            go_wp2
            go_ret
            rw [ok_no (lim := 8) (T := (tst nameB ltB)) (k := 0) (by omega) hp]
            exact ⟨rfl, hbel.out.trans ((below_regrown _ dq osq).mono hs)⟩
          · have hp : (tst nameB ltB) (prevO l (0)) (l[0]'(by omega)) = true := by
              rw [prev_zero l, ef]
              show (nameB f && true) = _
              rw [c0]
              rfl
            go_wp2
            refine wp_region_quiet_below (by kernel_rfl) (by kernel_rfl) ?_
            repeat (first | go_big_quiet_step (with_reducible exact nameZ_q _ _ ez0 _ c0 _ _) | quiet_step (with_reducible exact nameZ_q _ _ ez0 _ c0 _ _))
            refine wpQuiet_nil ?_
            intro _ hw'
            obtain ⟨⟨dq, osq⟩, hw''⟩ := hw'
            subst hw''
            go_wp2
            go_roundw
            case rel => exact ⟨0 + 1, by omega, by go_num, fun j hj hjk => by
              by_cases e : j = 0
              · subst e; exact hp
              · exact hall.out j hj (by omega), hbel.out.trans ((below_regrown _ dq osq).mono hs)⟩
            case measure => simp [intOf]; omega
        · obtain ⟨m, rfl⟩ : ∃ m, q = m + 1 := ⟨q - 1, by omega⟩
          obtain ⟨b, off, rfl, hbS, cc, hcell, hat⟩ := HC.out (m + 1) (by omega)
          have hb := hS b hbS
          rw [width_str] at hcell
          have e0 : wr.cell? ⟨b, off + (m + 1), none⟩ = some (cc 0) := (hbel.out.cell (p := ⟨b, off + (m + 1), none⟩) hb).trans (by have hq := hcell 0 (by omega); first | exact hq | simpa using hq)
          rw [at_str] at hat
          rw [hat.1] at e0
          have ez0 := hat.2
          clear hcell hat
          obtain ⟨f, ef⟩ : ∃ f, l[(m + 1)]'(by omega) = f := ⟨_, rfl⟩
          rw [ef] at e0 ez0
          have qe0 := fun d os => cell_regrown e0 d os
          obtain ⟨b', off', e', _, dd, hcell, hat⟩ := HC.out m (by omega)
          cases e'
          rw [width_str] at hcell
          have m0 : wr.cell? ⟨b, off + m, none⟩ = some (dd 0) := (hbel.out.cell (p := ⟨b, off + m, none⟩) hb).trans (by have hq := hcell 0 (by omega); first | exact hq | simpa using hq)
          rw [at_str] at hat
          rw [hat.1] at m0
          have mz0 := hat.2
          clear hcell hat
          obtain ⟨g, eg⟩ : ∃ f, l[m]'(by omega) = f := ⟨_, rfl⟩
          rw [eg] at m0 mz0
          have qm0 := fun d os => cell_regrown m0 d os
          have gt0 : decide ((0 : Int) < ((m : Int) + 1)) = true := by rw [decide_eq_true_eq]; omega
          cases c0 : nameB f
          · have hp : (tst nameB ltB) (prevO l ((m + 1))) (l[(m + 1)]'(by omega)) = false := by
              rw [prev_succ l m (by omega), ef, eg]
              show (nameB f && ltB g f) = _
              rw [c0]
              rfl
            go_wp2
            refine wp_region_quiet_below (by kernel_rfl) (by kernel_rfl) ?_
            repeat (first | go_big_quiet_step (with_reducible exact nameZ_q _ _ ez0 _ c0 _ _) | quiet_step (with_reducible exact nameZ_q _ _ ez0 _ c0 _ _))
            refine wpQuiet_nil ?_
            intro _ hw'
            obtain ⟨⟨dq, osq⟩, hw''⟩ := hw'
            subst hw''
            go_wp2
            go_ret
            rw [ok_no (lim := 8) (T := (tst nameB ltB)) (k := (m + 1)) (by omega) hp]
            exact ⟨rfl, hbel.out.trans ((below_regrown _ dq osq).mono hs)⟩
          · cases c1 : Op.bytesLess g.toList f.toList
            · have hp : (tst nameB ltB) (prevO l ((m + 1))) (l[(m + 1)]'(by omega)) = false := by
                rw [prev_succ l m (by omega), ef, eg]
                show (nameB f && ltB g f) = _
                rw [c0, show ltB g f = false from c1]
                rfl
              go_wp2
              refine wp_region_quiet_below (by kernel_rfl) (by kernel_rfl) ?_
              repeat (first | go_big_quiet_step (with_reducible exact nameZ_q _ _ ez0 _ c0 _ _) | quiet_step (with_reducible exact nameZ_q _ _ ez0 _ c0 _ _))
              refine wpQuiet_nil ?_
              intro _ hw'
              obtain ⟨⟨dq, osq⟩, hw''⟩ := hw'
              subst hw''
              go_wp2
              go_ret
              rw [ok_no (lim := 8) (T := (tst nameB ltB)) (k := (m + 1)) (by omega) hp]
              exact ⟨rfl, hbel.out.trans ((below_regrown _ dq osq).mono hs)⟩
            · have hp : (tst nameB ltB) (prevO l ((m + 1))) (l[(m + 1)]'(by omega)) = true := by
                rw [prev_succ l m (by omega), ef, eg]
                show (nameB f && ltB g f) = _
                rw [c0, show ltB g f = true from c1]
                rfl
              go_wp2
              refine wp_region_quiet_below (by kernel_rfl) (by kernel_rfl) ?_
              repeat (first | go_big_quiet_step (with_reducible exact nameZ_q _ _ ez0 _ c0 _ _) | quiet_step (with_reducible exact nameZ_q _ _ ez0 _ c0 _ _))
              refine wpQuiet_nil ?_
              intro _ hw'
              obtain ⟨⟨dq, osq⟩, hw''⟩ := hw'
              subst hw''
              go_wp2
              go_roundw
              case rel => exact ⟨(m + 1) + 1, by omega, by go_num, fun j hj hjk => by
                by_cases e : j = (m + 1)
                · subst e; exact hp
                · exact hall.out j hj (by omega), hbel.out.trans ((below_regrown _ dq osq).mono hs)⟩
              case measure => simp [intOf]; omega
      · have hqn : q = n := by omega
        subst hqn
        go_wp2
        go_ret
        rw [ok_yes (lim := 8) (T := (tst nameB ltB)) (by omega) (fun i hi => hall.out i hi (by omega))]
        exact ⟨rfl, hbel.out⟩
  · have d0 : decide ((8 : Int) < (n : Int)) = true := by simp; omega
    go_enter Tryz.func126, Tryz.ntmps126
    go_wp2
    go_ret
    rw [ok_long (lim := 8) (T := (tst nameB ltB)) (by omega)]
    exact ⟨rfl, Below.refl _ _⟩
open Go.Sort in
theorem hasZ_q (S : Nat → Prop) (v : Value) (l : List ByteArray) (x : ByteArray) (wr : World) (h : AtL S wr l v) (hS : ∀ b, S b → b < wr.heap.size) (r : Bool) (hr : hasB l x = r) (d : Nat) (os : Array Obj) : Calls Tryz.prog 103 #[v, .string x] (grow (redrawn wr d) os) fun e w'' => e = .returned (.bool r) ∧ ∃ p : Regrown, w'' = grow (redrawn wr p.d) p.os :=
  Calls.regrown_of ((hasZ_any S v l x _ (h.same (Same.of_below (below_regrown wr d os) hS))).mono fun _ _ ⟨he, hw⟩ => ⟨by subst hr; exact he, hw⟩)
noncomputable def subB (all l : List ByteArray) : Bool := okB l.length (tst (fun f => hasB all f) ltB) l
set_option maxRecDepth 100000 in
set_option maxHeartbeats 8000000 in
theorem namesZ_any (S SA : Nat → Prop) (v va : Value) (l all : List ByteArray) (w : World) (h : AtL S w l v) (ha : AtL SA w all va) (hS : ∀ b, S b → b < w.heap.size) (hSA : ∀ b, SA b → b < w.heap.size) :
    Calls Tryz.prog 128 #[v, va] w fun e w' => e = .returned (.bool (subB all l)) ∧ Below w.heap.size w w' := by
  obtain ⟨oa, cap, rfl, hn, hc⟩ := h
  obtain ⟨n, en⟩ : ∃ n, l.length = n := ⟨_, rfl⟩
  rw [en] at hn
  rw [en]
  unfold maxLen at hn
  have HC : Hid _ := hc
  clear hc
  have hl : n ≤ l.length := by omega
  unfold subB
  have HALL : Hid (AtL SA w all va) := ha
  go_enter Tryz.func128, Tryz.ntmps128
  go_wp2
  go_loopw [5] (fun i wr => ∃ q : Nat, q ≤ n ∧ i = .int .i64 q ∧ Hid (∀ j (hj : j < l.length), j < q → (tst (fun f => hasB all f) ltB) (prevO l j) l[j] = true) ∧ Hid (Below w.heap.size w wr)) (fun i _ => n - (intOf i).toNat)
  case atStart => exact ⟨0, Nat.zero_le _, rfl, fun _ _ h => by omega, Below.refl _ _⟩
  case round =>
    obtain ⟨q, hq, rfl, hall, hbel⟩ := hrel
    have hs := hbel.out.size
    have HAW : Hid (AtL SA wr all va) := HALL.out.same (Same.of_below hbel.out hSA)
    have HSW : Hid (∀ b, SA b → b < wr.heap.size) := fun b hb => Nat.lt_of_lt_of_le (hSA b hb) hs
    by_cases hlt : q < n
    · rcases Nat.eq_zero_or_pos q with rfl | hpos
      · have _u := trivial
        obtain ⟨b, off, rfl, hbS, cc, hcell, hat⟩ := HC.out 0 (by omega)
        have hb := hS b hbS
        rw [width_str] at hcell
        have e0 : wr.cell? ⟨b, off, none⟩ = some (cc 0) := (hbel.out.cell (p := ⟨b, off, none⟩) hb).trans (by have hq := hcell 0 (by omega); first | exact hq | simpa using hq)
        rw [at_str] at hat
        rw [hat.1] at e0
        have ez0 := hat.2
        clear hcell hat
        obtain ⟨f, ef⟩ : ∃ f, l[0]'(by omega) = f := ⟨_, rfl⟩
        rw [ef] at e0 ez0
        have qe0 := fun d os => cell_regrown e0 d os
        cases c0 : hasB all f
        · have hp : (tst (fun f => hasB all f) ltB) (prevO l (0)) (l[0]'(by omega)) = false := by
            rw [prev_zero l, ef]
            show (hasB all f && true) = _
            rw [c0]
            rfl
          go_wp2
          refine wp_region_quiet_below (by kernel_rfl) (by kernel_rfl) ?_
          repeat (first | go_big_quiet_step (with_reducible exact hasZ_q SA va all _ _ HAW.out HSW.out _ c0 _ _) | quiet_step (with_reducible exact hasZ_q SA va all _ _ HAW.out HSW.out _ c0 _ _))
          refine wpQuiet_nil ?_
          intro _ hw'
          obtain ⟨⟨dq, osq⟩, hw''⟩ := hw'
          subst hw''
          go_wp2
          go_ret
          rw [ok_no (lim := l.length) (T := (tst (fun f => hasB all f) ltB)) (k := 0) (by omega) hp]
          exact ⟨rfl, hbel.out.trans ((below_regrown _ dq osq).mono hs)⟩
        · have hp : (tst (fun f => hasB all f) ltB) (prevO l (0)) (l[0]'(by omega)) = true := by
            rw [prev_zero l, ef]
            show (hasB all f && true) = _
            rw [c0]
            rfl
          go_wp2
          refine wp_region_quiet_below (by kernel_rfl) (by kernel_rfl) ?_
          repeat (first | go_big_quiet_step (with_reducible exact hasZ_q SA va all _ _ HAW.out HSW.out _ c0 _ _) | quiet_step (with_reducible exact hasZ_q SA va all _ _ HAW.out HSW.out _ c0 _ _))
          refine wpQuiet_nil ?_
          intro _ hw'
          obtain ⟨⟨dq, osq⟩, hw''⟩ := hw'
          subst hw''
          go_wp2
          go_roundw
          case rel => exact ⟨0 + 1, by omega, by go_num, fun j hj hjk => by
            by_cases e : j = 0
            · subst e; exact hp
            · exact hall.out j hj (by omega), hbel.out.trans ((below_regrown _ dq osq).mono hs)⟩
          case measure => simp [intOf]; omega
      · obtain ⟨m, rfl⟩ : ∃ m, q = m + 1 := ⟨q - 1, by omega⟩
        obtain ⟨b, off, rfl, hbS, cc, hcell, hat⟩ := HC.out (m + 1) (by omega)
        have hb := hS b hbS
        rw [width_str] at hcell
        have e0 : wr.cell? ⟨b, off + (m + 1), none⟩ = some (cc 0) := (hbel.out.cell (p := ⟨b, off + (m + 1), none⟩) hb).trans (by have hq := hcell 0 (by omega); first | exact hq | simpa using hq)
        rw [at_str] at hat
        rw [hat.1] at e0
        have ez0 := hat.2
        clear hcell hat
        obtain ⟨f, ef⟩ : ∃ f, l[(m + 1)]'(by omega) = f := ⟨_, rfl⟩
        rw [ef] at e0 ez0
        have qe0 := fun d os => cell_regrown e0 d os
        obtain ⟨b', off', e', _, dd, hcell, hat⟩ := HC.out m (by omega)
        cases e'
        rw [width_str] at hcell
        have m0 : wr.cell? ⟨b, off + m, none⟩ = some (dd 0) := (hbel.out.cell (p := ⟨b, off + m, none⟩) hb).trans (by have hq := hcell 0 (by omega); first | exact hq | simpa using hq)
        rw [at_str] at hat
        rw [hat.1] at m0
        have mz0 := hat.2
        clear hcell hat
        obtain ⟨g, eg⟩ : ∃ f, l[m]'(by omega) = f := ⟨_, rfl⟩
        rw [eg] at m0 mz0
        have qm0 := fun d os => cell_regrown m0 d os
        have gt0 : decide ((0 : Int) < ((m : Int) + 1)) = true := by rw [decide_eq_true_eq]; omega
        cases c0 : hasB all f
        · have hp : (tst (fun f => hasB all f) ltB) (prevO l ((m + 1))) (l[(m + 1)]'(by omega)) = false := by
            rw [prev_succ l m (by omega), ef, eg]
            show (hasB all f && ltB g f) = _
            rw [c0]
            rfl
          go_wp2
          refine wp_region_quiet_below (by kernel_rfl) (by kernel_rfl) ?_
          repeat (first | go_big_quiet_step (with_reducible exact hasZ_q SA va all _ _ HAW.out HSW.out _ c0 _ _) | quiet_step (with_reducible exact hasZ_q SA va all _ _ HAW.out HSW.out _ c0 _ _))
          refine wpQuiet_nil ?_
          intro _ hw'
          obtain ⟨⟨dq, osq⟩, hw''⟩ := hw'
          subst hw''
          go_wp2
          go_ret
          rw [ok_no (lim := l.length) (T := (tst (fun f => hasB all f) ltB)) (k := (m + 1)) (by omega) hp]
          exact ⟨rfl, hbel.out.trans ((below_regrown _ dq osq).mono hs)⟩
        · cases c1 : Op.bytesLess g.toList f.toList
          · have hp : (tst (fun f => hasB all f) ltB) (prevO l ((m + 1))) (l[(m + 1)]'(by omega)) = false := by
              rw [prev_succ l m (by omega), ef, eg]
              show (hasB all f && ltB g f) = _
              rw [c0, show ltB g f = false from c1]
              rfl
            go_wp2
            refine wp_region_quiet_below (by kernel_rfl) (by kernel_rfl) ?_
            repeat (first | go_big_quiet_step (with_reducible exact hasZ_q SA va all _ _ HAW.out HSW.out _ c0 _ _) | quiet_step (with_reducible exact hasZ_q SA va all _ _ HAW.out HSW.out _ c0 _ _))
            refine wpQuiet_nil ?_
            intro _ hw'
            obtain ⟨⟨dq, osq⟩, hw''⟩ := hw'
            subst hw''
            go_wp2
            go_ret
            rw [ok_no (lim := l.length) (T := (tst (fun f => hasB all f) ltB)) (k := (m + 1)) (by omega) hp]
            exact ⟨rfl, hbel.out.trans ((below_regrown _ dq osq).mono hs)⟩
          · have hp : (tst (fun f => hasB all f) ltB) (prevO l ((m + 1))) (l[(m + 1)]'(by omega)) = true := by
              rw [prev_succ l m (by omega), ef, eg]
              show (hasB all f && ltB g f) = _
              rw [c0, show ltB g f = true from c1]
              rfl
            go_wp2
            refine wp_region_quiet_below (by kernel_rfl) (by kernel_rfl) ?_
            repeat (first | go_big_quiet_step (with_reducible exact hasZ_q SA va all _ _ HAW.out HSW.out _ c0 _ _) | quiet_step (with_reducible exact hasZ_q SA va all _ _ HAW.out HSW.out _ c0 _ _))
            refine wpQuiet_nil ?_
            intro _ hw'
            obtain ⟨⟨dq, osq⟩, hw''⟩ := hw'
            subst hw''
            go_wp2
            go_roundw
            case rel => exact ⟨(m + 1) + 1, by omega, by go_num, fun j hj hjk => by
              by_cases e : j = (m + 1)
              · subst e; exact hp
              · exact hall.out j hj (by omega), hbel.out.trans ((below_regrown _ dq osq).mono hs)⟩
            case measure => simp [intOf]; omega
    · have hqn : q = n := by omega
      subst hqn
      go_wp2
      go_ret
      rw [ok_yes (lim := l.length) (T := (tst (fun f => hasB all f) ltB)) (by omega) (fun i hi => hall.out i hi (by omega))]
      exact ⟨rfl, hbel.out⟩
end Go.Proofs.YtigkkelaadbhcabGreat
