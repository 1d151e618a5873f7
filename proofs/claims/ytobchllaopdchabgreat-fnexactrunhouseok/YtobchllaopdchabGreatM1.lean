/-
  Several texts in one.
-/
import Derived.Test.YtobchllaopdchabGreatM0
import Derived.Deep.Cut
namespace Go.Proofs.YtobchllaopdchabGreat
open Go.RowKit Go.Sort
def cmpI (a b : Int) : Int := if a < b then -1 else if b < a then 1 else 0
theorem cmpI_ge (a b : Int) : decide (0 ≤ cmpI a b) = !decide (a < b) := by
  unfold cmpI
  by_cases h : a < b
  · rw [if_pos h]; simp [h]
  · rw [if_neg h]; split <;> simp [h]
theorem isNaN_any (a : Int) (w : World) : Calls Tryz.prog 125 #[.int .i64 a] w fun e w' => e = .returned (.bool false) ∧ w' = w := by
  have h0 : (a == a) = true := by simp
  go_enter Tryz.func125, Tryz.ntmps125
  go_wp2
  go_ret
  exact ⟨by simp, rfl⟩
set_option maxRecDepth 100000 in
set_option maxHeartbeats 4000000 in
theorem cmpN_any (a b : Int) (w : World) : Calls Tryz.prog 88 #[.int .i64 a, .int .i64 b] w fun e w' => e = .returned (.int .i64 (cmpI a b)) ∧ w' = w := by
  by_cases h1 : a < b
  · have d1 : decide (a < b) = true := by first | exact h1 | (simp; done) | simpa using h1
    rw [show cmpI a b = -1 from if_pos h1]
    go_enter Tryz.func88, Tryz.ntmps88
    go_wp2_with (go_at_call 125; refine (isNaN_any _ _).mono ?_; rintro e w1 ⟨rfl, rfl⟩)
    go_ret
    exact ⟨rfl, rfl⟩
  · have d1 : decide (a < b) = false := by first | exact h1 | (simp; done) | simpa using h1
    by_cases h2 : b < a
    · have d2 : decide (b < a) = true := by first | exact h2 | (simp; done) | simpa using h2
      rw [show cmpI a b = 1 from by unfold cmpI; rw [if_neg h1, if_pos h2]]
      go_enter Tryz.func88, Tryz.ntmps88
      go_wp2_with (go_at_call 125; refine (isNaN_any _ _).mono ?_; rintro e w1 ⟨rfl, rfl⟩)
      go_ret
      exact ⟨rfl, rfl⟩
    · have d2 : decide (b < a) = false := by first | exact h2 | (simp; done) | simpa using h2
      rw [show cmpI a b = 0 from by unfold cmpI; rw [if_neg h1, if_neg h2]]
      go_enter Tryz.func88, Tryz.ntmps88
      go_wp2_with (go_at_call 125; refine (isNaN_any _ _).mono ?_; rintro e w1 ⟨rfl, rfl⟩)
      go_ret
      exact ⟨rfl, rfl⟩
end Go.Proofs.YtobchllaopdchabGreat

namespace Go.Proofs.YtobchllaopdchabGreat
open Go.RowKit
def isT (s : ByteArray) (l : List UInt8) : Bool := s.toList == l
def endI (s : ByteArray) : Int := if isT s [103, 111, 111, 100] = true then 1 else if isT s [115, 97, 118, 101, 100] = true then 2 else if isT s [115, 99, 114, 97, 112, 112, 101, 100] = true then 3 else 0
set_option maxRecDepth 100000 in
set_option maxHeartbeats 4000000 in
theorem endX_any (s : ByteArray) (w : World) : Calls Tryz.prog 77 #[.string s] w fun e w' => e = .returned (.int .i64 (endI s)) ∧ w' = w := by
  unfold endI
  cases h1 : isT s [103, 111, 111, 100]
  · cases h2 : isT s [115, 97, 118, 101, 100]
    · cases h3 : isT s [115, 99, 114, 97, 112, 112, 101, 100]
      · unfold isT at h1 h2 h3
        go_enter Tryz.func77, Tryz.ntmps77
        go_wp2
        go_ret
        exact ⟨rfl, rfl⟩
      · unfold isT at h1 h2 h3
        go_enter Tryz.func77, Tryz.ntmps77
        go_wp2
        go_ret
        exact ⟨rfl, rfl⟩
    · unfold isT at h1 h2
      go_enter Tryz.func77, Tryz.ntmps77
      go_wp2
      go_ret
      exact ⟨rfl, rfl⟩
  · unfold isT at h1
    go_enter Tryz.func77, Tryz.ntmps77
    go_wp2
    go_ret
    exact ⟨rfl, rfl⟩
end Go.Proofs.YtobchllaopdchabGreat

namespace Go.Proofs.YtobchllaopdchabGreat
open Go.RowKit
def OkN (a : Int) : Prop := -9223372036854775808 ≤ a ∧ a ≤ 9223372036854775807
def plainB (s : ByteArray) : Bool := nameB s && (endI s == 0)
def argsB (p : DRecPhase) : Bool :=
  if p.2.1 = 1 then nameB p.2.2.1 && nameB p.2.2.2.1 && inB p.2.2.2.2.1 1 1000
  else if p.2.1 = 2 then nameB p.2.2.1 && nameB p.2.2.2.1 && !(eqB p.2.2.1 p.2.2.2.1) && inB p.2.2.2.2.1 1 1000
  else if p.2.1 = 3 then nameB p.2.2.1 && isT p.2.2.2.1 [] && inB p.2.2.2.2.1 1 p.2.2.2.2.2.1
  else if p.2.1 = 4 ∨ p.2.1 = 5 then nameB p.2.2.1 && isT p.2.2.2.1 [] && (p.2.2.2.2.1 == 0)
  else false
def phaseB (p : DRecPhase) : Bool := plainB p.1 && inB p.2.2.2.2.2.1 1 1000 && argsB p && nameB p.2.2.2.2.2.2.1 && nameB p.2.2.2.2.2.2.2
set_option maxHeartbeats 400000 in
theorem inX_any (n lo hi : Int) (w : World) : Calls Tryz.prog 12 #[.int .i64 n, .int .i64 lo, .int .i64 hi] w fun e w' => e = .returned (.bool (inB n lo hi)) ∧ w' = w := by
  by_cases h1 : lo ≤ n
  · by_cases h2 : n ≤ hi
    · have hw : inB n lo hi = true := by simp [inB, h1, h2]
      rw [hw]
      go_enter Tryz.func12, Tryz.ntmps12
      go_wp2
      go_ret
      exact ⟨rfl, rfl⟩
    · have hw : inB n lo hi = false := by simp [inB]; omega
      rw [hw]
      go_enter Tryz.func12, Tryz.ntmps12
      go_wp2
      go_ret
      exact ⟨rfl, rfl⟩
  · have hw : inB n lo hi = false := by simp [inB]; omega
    rw [hw]
    go_enter Tryz.func12, Tryz.ntmps12
    go_wp2
    go_ret
    exact ⟨rfl, rfl⟩
set_option maxRecDepth 100000 in
set_option maxHeartbeats 1000000 in
theorem nameX_any (s : ByteArray) (w : World) (hs : s.size ≤ maxLen) : Calls Tryz.prog 35 #[.string s] w fun e w' => e = .returned (.bool (nameB s)) ∧ w' = w := by
  unfold maxLen at hs
  by_cases hl : 1 ≤ s.size ∧ s.size ≤ 8
  · have hin : inB (s.size : Int) 1 8 = true := by simp [inB]; omega
    go_enter Tryz.func35, Tryz.ntmps35
    go_wp2_with (go_at_call 12; refine (inX_any _ _ _ _).mono ?_; rintro e w1 ⟨rfl, rfl⟩; rw [hin])
    go_loop [3] (fun i => ∃ k : Nat, k ≤ s.size ∧ i = .int .i64 k ∧ Hid (∀ j (hj : j < s.size), j < k → okn s[j].toNat = true)) (fun i => s.size - (intOf i).toNat)
    case atStart => exact ⟨0, Nat.zero_le _, rfl, fun _ _ h => by omega⟩
    case round =>
      obtain ⟨k, hk, rfl, hno⟩ := hrel
      by_cases hlt : k < s.size
      · have hb := s[k].toNat_lt
        have HN : Hid (okn s[k].toNat = false → nameB s = false) := fun h => name_bad hlt h
        rcases (show (s[k].toNat : Int) < 45 ∨ (s[k].toNat : Int) = 45 ∨ (45 < (s[k].toNat : Int) ∧ (s[k].toNat : Int) < 48) ∨ (48 ≤ (s[k].toNat : Int) ∧ (s[k].toNat : Int) ≤ 57) ∨ (57 < (s[k].toNat : Int) ∧ (s[k].toNat : Int) < 97) ∨ (97 ≤ (s[k].toNat : Int) ∧ (s[k].toNat : Int) ≤ 122) ∨ 122 < (s[k].toNat : Int) by omega) with h | h | ⟨h, h'⟩ | ⟨h, h'⟩ | ⟨h, h'⟩ | ⟨h, h'⟩ | h
        · have h45 : ((s[k].toNat : Int) == 45) = false := by simp; omega
          have HO : Hid (okn s[k].toNat = false) := by simp [Hid, okn]; omega
          go_wp2
          rw [HN.out HO.out]
          go_ret
          exact ⟨rfl, rfl⟩
        · have h45 : ((s[k].toNat : Int) == 45) = true := by rw [h]; rfl
          have HO : Hid (okn s[k].toNat = true) := by rw [h]; rfl
          have ha : (s[k].toNat : Int) ≤ 45 := by omega
          clear h
          go_wp2
          go_round
          case rel => exact ⟨k + 1, by omega, by go_num, fun j hj hjk => by
            by_cases e : j = k
            · subst e; exact HO.out
            · exact hno.out j hj (by omega)⟩
          case measure => simp [intOf]; omega
        · have h45 : ((s[k].toNat : Int) == 45) = false := by simp; omega
          have HO : Hid (okn s[k].toNat = false) := by simp [Hid, okn]; omega
          go_wp2
          rw [HN.out HO.out]
          go_ret
          exact ⟨rfl, rfl⟩
        · have h45 : ((s[k].toNat : Int) == 45) = false := by simp; omega
          have HO : Hid (okn s[k].toNat = true) := by simp [Hid, okn]; omega
          go_wp2
          go_round
          case rel => exact ⟨k + 1, by omega, by go_num, fun j hj hjk => by
            by_cases e : j = k
            · subst e; exact HO.out
            · exact hno.out j hj (by omega)⟩
          case measure => simp [intOf]; omega
        · have h45 : ((s[k].toNat : Int) == 45) = false := by simp; omega
          have HO : Hid (okn s[k].toNat = false) := by simp [Hid, okn]; omega
          have d57 : decide ((s[k].toNat : Int) ≤ 57) = false := by simp; omega
          go_wp2
          rw [HN.out HO.out]
          go_ret
          exact ⟨rfl, rfl⟩
        · have h45 : ((s[k].toNat : Int) == 45) = false := by simp; omega
          have HO : Hid (okn s[k].toNat = true) := by simp [Hid, okn]; omega
          go_wp2
          go_round
          case rel => exact ⟨k + 1, by omega, by go_num, fun j hj hjk => by
            by_cases e : j = k
            · subst e; exact HO.out
            · exact hno.out j hj (by omega)⟩
          case measure => simp [intOf]; omega
        · have h45 : ((s[k].toNat : Int) == 45) = false := by simp; omega
          have HO : Hid (okn s[k].toNat = false) := by simp [Hid, okn]; omega
          have d57 : decide ((s[k].toNat : Int) ≤ 57) = false := by simp; omega
          have d122 : decide ((s[k].toNat : Int) ≤ 122) = false := by simp; omega
          go_wp2
          rw [HN.out HO.out]
          go_ret
          exact ⟨rfl, rfl⟩
      · go_wp2
        go_ret
        have hkn : k = s.size := by omega
        subst hkn
        rw [name_all hl (fun j hj => hno.out j hj hj)]
        exact ⟨rfl, rfl⟩
  · have hin : inB (s.size : Int) 1 8 = false := by simp [inB]; omega
    rw [name_short hl]
    go_enter Tryz.func35, Tryz.ntmps35
    go_wp2_with (go_at_call 12; refine (inX_any _ _ _ _).mono ?_; rintro e w1 ⟨rfl, rfl⟩; rw [hin])
    go_ret
    exact ⟨rfl, rfl⟩
set_option maxRecDepth 100000 in
set_option maxHeartbeats 4000000 in
theorem plainX_any (s : ByteArray) (w : World) (hs : s.size ≤ maxLen) : Calls Tryz.prog 113 #[.string s] w fun e w' => e = .returned (.bool (plainB s)) ∧ w' = w := by
  cases h1 : nameB s
  · have hw : plainB s = false := by simp [plainB, h1]
    rw [hw]
    go_enter Tryz.func113, Tryz.ntmps113
    go_wp2_with fail
    refine (nameX_any s w hs).mono ?_; rintro e w1 ⟨rfl, rfl⟩; rw [h1]
    go_wp2_with fail
    go_ret
    exact ⟨rfl, rfl⟩
  · by_cases h2 : endI s = 0
    · have hw : plainB s = true := by simp [plainB, h1, h2]
      rw [hw]
      go_enter Tryz.func113, Tryz.ntmps113
      go_wp2_with fail
      refine (nameX_any s w hs).mono ?_; rintro e w1 ⟨rfl, rfl⟩; rw [h1]
      go_wp2_with fail
      refine (endX_any s _).mono ?_; rintro e w2 ⟨rfl, rfl⟩; rw [h2]
      go_wp2_with fail
      go_ret
      exact ⟨rfl, rfl⟩
    · have hw : plainB s = false := by simp [plainB, h1, h2]
      rw [hw]
      go_enter Tryz.func113, Tryz.ntmps113
      go_wp2_with fail
      refine (nameX_any s w hs).mono ?_; rintro e w1 ⟨rfl, rfl⟩; rw [h1]
      go_wp2_with fail
      refine (endX_any s _).mono ?_; rintro e w2 ⟨rfl, rfl⟩
      have h3 : (endI s == 0) = false := by simp [h2]
      go_wp2_with fail
      go_ret
      exact ⟨rfl, rfl⟩
set_option maxRecDepth 100000 in
set_option maxHeartbeats 4000000 in
theorem argsX_any (nm a b th el : ByteArray) (kd n wi : Int) (w : World) (ha : a.size ≤ maxLen) (hb : b.size ≤ maxLen) : Calls Tryz.prog 114 #[.agg #[.string nm, .int .i64 kd, .string a, .string b, .int .i64 n, .int .i64 wi, .string th, .string el]] w fun e w' => e = .returned (.bool (argsB (nm, kd, a, b, n, wi, th, el))) ∧ Below w.heap.size w w' := by
  by_cases k1 : kd = 1
  · subst k1
    cases h1 : nameB a
    · have _u := trivial
      have hw : argsB (nm, 1, a, b, n, wi, th, el) = false := by simp [argsB, h1]
      rw [hw]
      go_enter Tryz.func114, Tryz.ntmps114
      go_wp2_with fail
      refine (nameX_any a _ ha).mono ?_; rintro e w1 ⟨rfl, rfl⟩; rw [h1]
      go_wp2_with fail
      go_ret
      exact ⟨rfl, (Below.refl _ _).alloc (Nat.le_refl _) _⟩
    · have _u := trivial
      cases h2 : nameB b
      · have _u := trivial
        have hw : argsB (nm, 1, a, b, n, wi, th, el) = false := by simp [argsB, h1, h2]
        rw [hw]
        go_enter Tryz.func114, Tryz.ntmps114
        go_wp2_with fail
        refine (nameX_any a _ ha).mono ?_; rintro e w1 ⟨rfl, rfl⟩; rw [h1]
        go_wp2_with fail
        refine (nameX_any b _ hb).mono ?_; rintro e w2 ⟨rfl, rfl⟩; rw [h2]
        go_wp2_with fail
        go_ret
        exact ⟨rfl, (Below.refl _ _).alloc (Nat.le_refl _) _⟩
      · have _u := trivial
        cases h3 : inB n 1 1000
        · have _u := trivial
          have hw : argsB (nm, 1, a, b, n, wi, th, el) = false := by simp [argsB, h1, h2, h3]
          rw [hw]
          go_enter Tryz.func114, Tryz.ntmps114
          go_wp2_with fail
          refine (nameX_any a _ ha).mono ?_; rintro e w1 ⟨rfl, rfl⟩; rw [h1]
          go_wp2_with fail
          refine (nameX_any b _ hb).mono ?_; rintro e w2 ⟨rfl, rfl⟩; rw [h2]
          go_wp2_with fail
          refine (inX_any n 1 1000 _).mono ?_; rintro e w3 ⟨rfl, rfl⟩; rw [h3]
          go_wp2_with fail
          go_ret
          exact ⟨rfl, (Below.refl _ _).alloc (Nat.le_refl _) _⟩
        · have _u := trivial
          have hw : argsB (nm, 1, a, b, n, wi, th, el) = true := by simp [argsB, h1, h2, h3]
          rw [hw]
          go_enter Tryz.func114, Tryz.ntmps114
          go_wp2_with fail
          refine (nameX_any a _ ha).mono ?_; rintro e w1 ⟨rfl, rfl⟩; rw [h1]
          go_wp2_with fail
          refine (nameX_any b _ hb).mono ?_; rintro e w2 ⟨rfl, rfl⟩; rw [h2]
          go_wp2_with fail
          refine (inX_any n 1 1000 _).mono ?_; rintro e w3 ⟨rfl, rfl⟩; rw [h3]
          go_wp2_with fail
          go_ret
          exact ⟨rfl, (Below.refl _ _).alloc (Nat.le_refl _) _⟩
  by_cases k2 : kd = 2
  · subst k2
    cases h1 : nameB a
    · have _u := trivial
      have hw : argsB (nm, 2, a, b, n, wi, th, el) = false := by simp [argsB, h1]
      rw [hw]
      go_enter Tryz.func114, Tryz.ntmps114
      go_wp2_with fail
      refine (nameX_any a _ ha).mono ?_; rintro e w1 ⟨rfl, rfl⟩; rw [h1]
      go_wp2_with fail
      go_ret
      exact ⟨rfl, (Below.refl _ _).alloc (Nat.le_refl _) _⟩
    · have _u := trivial
      cases h2 : nameB b
      · have _u := trivial
        have hw : argsB (nm, 2, a, b, n, wi, th, el) = false := by simp [argsB, h1, h2]
        rw [hw]
        go_enter Tryz.func114, Tryz.ntmps114
        go_wp2_with fail
        refine (nameX_any a _ ha).mono ?_; rintro e w1 ⟨rfl, rfl⟩; rw [h1]
        go_wp2_with fail
        refine (nameX_any b _ hb).mono ?_; rintro e w2 ⟨rfl, rfl⟩; rw [h2]
        go_wp2_with fail
        go_ret
        exact ⟨rfl, (Below.refl _ _).alloc (Nat.le_refl _) _⟩
      · have _u := trivial
        cases h3 : !(eqB a b)
        · have _u := trivial
          have hw : argsB (nm, 2, a, b, n, wi, th, el) = false := by simp [argsB, h1, h2, h3]
          rw [hw]
          unfold eqB at h3
          go_enter Tryz.func114, Tryz.ntmps114
          go_wp2_with fail
          refine (nameX_any a _ ha).mono ?_; rintro e w1 ⟨rfl, rfl⟩; rw [h1]
          go_wp2_with fail
          refine (nameX_any b _ hb).mono ?_; rintro e w2 ⟨rfl, rfl⟩; rw [h2]
          go_wp2_with fail
          go_ret
          exact ⟨rfl, (Below.refl _ _).alloc (Nat.le_refl _) _⟩
        · have _u := trivial
          cases h4 : inB n 1 1000
          · have _u := trivial
            have hw : argsB (nm, 2, a, b, n, wi, th, el) = false := by simp [argsB, h1, h2, h3, h4]
            rw [hw]
            unfold eqB at h3
            go_enter Tryz.func114, Tryz.ntmps114
            go_wp2_with fail
            refine (nameX_any a _ ha).mono ?_; rintro e w1 ⟨rfl, rfl⟩; rw [h1]
            go_wp2_with fail
            refine (nameX_any b _ hb).mono ?_; rintro e w2 ⟨rfl, rfl⟩; rw [h2]
            go_wp2_with fail
            refine (inX_any n 1 1000 _).mono ?_; rintro e w4 ⟨rfl, rfl⟩; rw [h4]
            go_wp2_with fail
            go_ret
            exact ⟨rfl, (Below.refl _ _).alloc (Nat.le_refl _) _⟩
          · have _u := trivial
            have hw : argsB (nm, 2, a, b, n, wi, th, el) = true := by simp [argsB, h1, h2, h3, h4]
            rw [hw]
            unfold eqB at h3
            go_enter Tryz.func114, Tryz.ntmps114
            go_wp2_with fail
            refine (nameX_any a _ ha).mono ?_; rintro e w1 ⟨rfl, rfl⟩; rw [h1]
            go_wp2_with fail
            refine (nameX_any b _ hb).mono ?_; rintro e w2 ⟨rfl, rfl⟩; rw [h2]
            go_wp2_with fail
            refine (inX_any n 1 1000 _).mono ?_; rintro e w4 ⟨rfl, rfl⟩; rw [h4]
            go_wp2_with fail
            go_ret
            exact ⟨rfl, (Below.refl _ _).alloc (Nat.le_refl _) _⟩
  by_cases k3 : kd = 3
  · subst k3
    cases h1 : nameB a
    · have _u := trivial
      have hw : argsB (nm, 3, a, b, n, wi, th, el) = false := by simp [argsB, h1]
      rw [hw]
      go_enter Tryz.func114, Tryz.ntmps114
      go_wp2_with fail
      refine (nameX_any a _ ha).mono ?_; rintro e w1 ⟨rfl, rfl⟩; rw [h1]
      go_wp2_with fail
      go_ret
      exact ⟨rfl, (Below.refl _ _).alloc (Nat.le_refl _) _⟩
    · have _u := trivial
      cases h2 : isT b []
      · have _u := trivial
        have hw : argsB (nm, 3, a, b, n, wi, th, el) = false := by simp [argsB, h1, h2]
        rw [hw]
        unfold isT at h2
        go_enter Tryz.func114, Tryz.ntmps114
        go_wp2_with fail
        refine (nameX_any a _ ha).mono ?_; rintro e w1 ⟨rfl, rfl⟩; rw [h1]
        go_wp2_with fail
        go_ret
        exact ⟨rfl, (Below.refl _ _).alloc (Nat.le_refl _) _⟩
      · have _u := trivial
        cases h3 : inB n 1 wi
        · have _u := trivial
          have hw : argsB (nm, 3, a, b, n, wi, th, el) = false := by simp [argsB, h1, h2, h3]
          rw [hw]
          unfold isT at h2
          go_enter Tryz.func114, Tryz.ntmps114
          go_wp2_with fail
          refine (nameX_any a _ ha).mono ?_; rintro e w1 ⟨rfl, rfl⟩; rw [h1]
          go_wp2_with fail
          refine (inX_any n 1 wi _).mono ?_; rintro e w3 ⟨rfl, rfl⟩; rw [h3]
          go_wp2_with fail
          go_ret
          exact ⟨rfl, (Below.refl _ _).alloc (Nat.le_refl _) _⟩
        · have _u := trivial
          have hw : argsB (nm, 3, a, b, n, wi, th, el) = true := by simp [argsB, h1, h2, h3]
          rw [hw]
          unfold isT at h2
          go_enter Tryz.func114, Tryz.ntmps114
          go_wp2_with fail
          refine (nameX_any a _ ha).mono ?_; rintro e w1 ⟨rfl, rfl⟩; rw [h1]
          go_wp2_with fail
          refine (inX_any n 1 wi _).mono ?_; rintro e w3 ⟨rfl, rfl⟩; rw [h3]
          go_wp2_with fail
          go_ret
          exact ⟨rfl, (Below.refl _ _).alloc (Nat.le_refl _) _⟩
  by_cases k4 : kd = 4
  · subst k4
    cases h1 : nameB a
    · have _u := trivial
      have hw : argsB (nm, 4, a, b, n, wi, th, el) = false := by simp [argsB, h1]
      rw [hw]
      go_enter Tryz.func114, Tryz.ntmps114
      go_wp2_with fail
      refine (nameX_any a _ ha).mono ?_; rintro e w1 ⟨rfl, rfl⟩; rw [h1]
      go_wp2_with fail
      go_ret
      exact ⟨rfl, (Below.refl _ _).alloc (Nat.le_refl _) _⟩
    · have _u := trivial
      cases h2 : isT b []
      · have _u := trivial
        have hw : argsB (nm, 4, a, b, n, wi, th, el) = false := by simp [argsB, h1, h2]
        rw [hw]
        unfold isT at h2
        go_enter Tryz.func114, Tryz.ntmps114
        go_wp2_with fail
        refine (nameX_any a _ ha).mono ?_; rintro e w1 ⟨rfl, rfl⟩; rw [h1]
        go_wp2_with fail
        go_ret
        exact ⟨rfl, (Below.refl _ _).alloc (Nat.le_refl _) _⟩
      · have _u := trivial
        cases h3 : (n == 0)
        · have _u := trivial
          have hw : argsB (nm, 4, a, b, n, wi, th, el) = false := by simp [argsB, h1, h2, h3]
          rw [hw]
          unfold isT at h2
          go_enter Tryz.func114, Tryz.ntmps114
          go_wp2_with fail
          refine (nameX_any a _ ha).mono ?_; rintro e w1 ⟨rfl, rfl⟩; rw [h1]
          go_wp2_with fail
          go_ret
          exact ⟨rfl, (Below.refl _ _).alloc (Nat.le_refl _) _⟩
        · have _u := trivial
          have hw : argsB (nm, 4, a, b, n, wi, th, el) = true := by simp [argsB, h1, h2, h3]
          rw [hw]
          unfold isT at h2
          go_enter Tryz.func114, Tryz.ntmps114
          go_wp2_with fail
          refine (nameX_any a _ ha).mono ?_; rintro e w1 ⟨rfl, rfl⟩; rw [h1]
          go_wp2_with fail
          go_ret
          exact ⟨rfl, (Below.refl _ _).alloc (Nat.le_refl _) _⟩
  by_cases k5 : kd = 5
  · subst k5
    cases h1 : nameB a
    · have _u := trivial
      have hw : argsB (nm, 5, a, b, n, wi, th, el) = false := by simp [argsB, h1]
      rw [hw]
      go_enter Tryz.func114, Tryz.ntmps114
      go_wp2_with fail
      refine (nameX_any a _ ha).mono ?_; rintro e w1 ⟨rfl, rfl⟩; rw [h1]
      go_wp2_with fail
      go_ret
      exact ⟨rfl, (Below.refl _ _).alloc (Nat.le_refl _) _⟩
    · have _u := trivial
      cases h2 : isT b []
      · have _u := trivial
        have hw : argsB (nm, 5, a, b, n, wi, th, el) = false := by simp [argsB, h1, h2]
        rw [hw]
        unfold isT at h2
        go_enter Tryz.func114, Tryz.ntmps114
        go_wp2_with fail
        refine (nameX_any a _ ha).mono ?_; rintro e w1 ⟨rfl, rfl⟩; rw [h1]
        go_wp2_with fail
        go_ret
        exact ⟨rfl, (Below.refl _ _).alloc (Nat.le_refl _) _⟩
      · have _u := trivial
        cases h3 : (n == 0)
        · have _u := trivial
          have hw : argsB (nm, 5, a, b, n, wi, th, el) = false := by simp [argsB, h1, h2, h3]
          rw [hw]
          unfold isT at h2
          go_enter Tryz.func114, Tryz.ntmps114
          go_wp2_with fail
          refine (nameX_any a _ ha).mono ?_; rintro e w1 ⟨rfl, rfl⟩; rw [h1]
          go_wp2_with fail
          go_ret
          exact ⟨rfl, (Below.refl _ _).alloc (Nat.le_refl _) _⟩
        · have _u := trivial
          have hw : argsB (nm, 5, a, b, n, wi, th, el) = true := by simp [argsB, h1, h2, h3]
          rw [hw]
          unfold isT at h2
          go_enter Tryz.func114, Tryz.ntmps114
          go_wp2_with fail
          refine (nameX_any a _ ha).mono ?_; rintro e w1 ⟨rfl, rfl⟩; rw [h1]
          go_wp2_with fail
          go_ret
          exact ⟨rfl, (Below.refl _ _).alloc (Nat.le_refl _) _⟩
  have hw : argsB (nm, kd, a, b, n, wi, th, el) = false := by simp [argsB, k1, k2, k3, k4, k5]
  rw [hw]
  go_enter Tryz.func114, Tryz.ntmps114
  go_wp2_with fail
  go_ret
  exact ⟨rfl, (Below.refl _ _).alloc (Nat.le_refl _) _⟩
set_option maxRecDepth 100000 in
set_option maxHeartbeats 4000000 in
theorem phaseX_any (nm a b th el : ByteArray) (kd n wi : Int) (w : World) (hn : nm.size ≤ maxLen) (ha : a.size ≤ maxLen) (hb : b.size ≤ maxLen) (ht : th.size ≤ maxLen) (he : el.size ≤ maxLen) : Calls Tryz.prog 76 #[.agg #[.string nm, .int .i64 kd, .string a, .string b, .int .i64 n, .int .i64 wi, .string th, .string el]] w fun e w' => e = .returned (.bool (phaseB (nm, kd, a, b, n, wi, th, el))) ∧ Below w.heap.size w w' := by
  cases h1 : plainB nm
  · have _u := trivial
    have hw : phaseB (nm, kd, a, b, n, wi, th, el) = false := by simp [phaseB, h1]
    rw [hw]
    go_enter Tryz.func76, Tryz.ntmps76
    go_wp2_with fail
    refine (plainX_any nm _ hn).mono ?_; rintro e w1 ⟨rfl, rfl⟩; rw [h1]
    go_wp2_with fail
    go_ret
    exact ⟨rfl, (Below.refl _ _).alloc (Nat.le_refl _) _⟩
  · have _u := trivial
    cases h2 : inB wi 1 1000
    · have _u := trivial
      have hw : phaseB (nm, kd, a, b, n, wi, th, el) = false := by simp [phaseB, h1, h2]
      rw [hw]
      go_enter Tryz.func76, Tryz.ntmps76
      go_wp2_with fail
      refine (plainX_any nm _ hn).mono ?_; rintro e w1 ⟨rfl, rfl⟩; rw [h1]
      go_wp2_with fail
      refine (inX_any wi 1 1000 _).mono ?_; rintro e w2 ⟨rfl, rfl⟩; rw [h2]
      go_wp2_with fail
      go_ret
      exact ⟨rfl, (Below.refl _ _).alloc (Nat.le_refl _) _⟩
    · have _u := trivial
      cases h3 : argsB (nm, kd, a, b, n, wi, th, el)
      · have _u := trivial
        have hw : phaseB (nm, kd, a, b, n, wi, th, el) = false := by simp [phaseB, h1, h2, h3]
        rw [hw]
        go_enter Tryz.func76, Tryz.ntmps76
        go_wp2_with fail
        refine (plainX_any nm _ hn).mono ?_; rintro e w1 ⟨rfl, rfl⟩; rw [h1]
        go_wp2_with fail
        refine (inX_any wi 1 1000 _).mono ?_; rintro e w2 ⟨rfl, rfl⟩; rw [h2]
        go_wp2_with fail
        refine (argsX_any nm a b th el kd n wi _ ha hb).mono ?_; rintro e w3 ⟨rfl, hb3⟩; rw [h3]
        have k3 : Hid (Below (w.heap.size + 1) (w.alloc (.cells #[.string nm, .int .i64 kd, .string a, .string b, .int .i64 n, .int .i64 wi, .string th, .string el] 78)) w3) := below_of (Below.refl _ _) hb3
        have x6 := box_at _ _ k3.out 6 (.string th) rfl
        have x7 := box_at _ _ k3.out 7 (.string el) rfl
        clear hb3
        go_wp2_with fail
        go_ret
        exact ⟨rfl, below_end k3.out⟩
      · have _u := trivial
        cases h4 : nameB th
        · have _u := trivial
          have hw : phaseB (nm, kd, a, b, n, wi, th, el) = false := by simp [phaseB, h1, h2, h3, h4]
          rw [hw]
          go_enter Tryz.func76, Tryz.ntmps76
          go_wp2_with fail
          refine (plainX_any nm _ hn).mono ?_; rintro e w1 ⟨rfl, rfl⟩; rw [h1]
          go_wp2_with fail
          refine (inX_any wi 1 1000 _).mono ?_; rintro e w2 ⟨rfl, rfl⟩; rw [h2]
          go_wp2_with fail
          refine (argsX_any nm a b th el kd n wi _ ha hb).mono ?_; rintro e w3 ⟨rfl, hb3⟩; rw [h3]
          have k3 : Hid (Below (w.heap.size + 1) (w.alloc (.cells #[.string nm, .int .i64 kd, .string a, .string b, .int .i64 n, .int .i64 wi, .string th, .string el] 78)) w3) := below_of (Below.refl _ _) hb3
          have x6 := box_at _ _ k3.out 6 (.string th) rfl
          have x7 := box_at _ _ k3.out 7 (.string el) rfl
          clear hb3
          go_wp2_with fail
          refine (nameX_any th _ ht).mono ?_; rintro e w4 ⟨rfl, rfl⟩; rw [h4]
          go_wp2_with fail
          go_ret
          exact ⟨rfl, below_end k3.out⟩
        · have _u := trivial
          cases h5 : nameB el
          · have _u := trivial
            have hw : phaseB (nm, kd, a, b, n, wi, th, el) = false := by simp [phaseB, h1, h2, h3, h4, h5]
            rw [hw]
            go_enter Tryz.func76, Tryz.ntmps76
            go_wp2_with fail
            refine (plainX_any nm _ hn).mono ?_; rintro e w1 ⟨rfl, rfl⟩; rw [h1]
            go_wp2_with fail
            refine (inX_any wi 1 1000 _).mono ?_; rintro e w2 ⟨rfl, rfl⟩; rw [h2]
            go_wp2_with fail
            refine (argsX_any nm a b th el kd n wi _ ha hb).mono ?_; rintro e w3 ⟨rfl, hb3⟩; rw [h3]
            have k3 : Hid (Below (w.heap.size + 1) (w.alloc (.cells #[.string nm, .int .i64 kd, .string a, .string b, .int .i64 n, .int .i64 wi, .string th, .string el] 78)) w3) := below_of (Below.refl _ _) hb3
            have x6 := box_at _ _ k3.out 6 (.string th) rfl
            have x7 := box_at _ _ k3.out 7 (.string el) rfl
            clear hb3
            go_wp2_with fail
            refine (nameX_any th _ ht).mono ?_; rintro e w4 ⟨rfl, rfl⟩; rw [h4]
            go_wp2_with fail
            refine (nameX_any el _ he).mono ?_; rintro e w5 ⟨rfl, rfl⟩; rw [h5]
            go_wp2_with fail
            go_ret
            exact ⟨rfl, below_end k3.out⟩
          · have _u := trivial
            have hw : phaseB (nm, kd, a, b, n, wi, th, el) = true := by simp [phaseB, h1, h2, h3, h4, h5]
            rw [hw]
            go_enter Tryz.func76, Tryz.ntmps76
            go_wp2_with fail
            refine (plainX_any nm _ hn).mono ?_; rintro e w1 ⟨rfl, rfl⟩; rw [h1]
            go_wp2_with fail
            refine (inX_any wi 1 1000 _).mono ?_; rintro e w2 ⟨rfl, rfl⟩; rw [h2]
            go_wp2_with fail
            refine (argsX_any nm a b th el kd n wi _ ha hb).mono ?_; rintro e w3 ⟨rfl, hb3⟩; rw [h3]
            have k3 : Hid (Below (w.heap.size + 1) (w.alloc (.cells #[.string nm, .int .i64 kd, .string a, .string b, .int .i64 n, .int .i64 wi, .string th, .string el] 78)) w3) := below_of (Below.refl _ _) hb3
            have x6 := box_at _ _ k3.out 6 (.string th) rfl
            have x7 := box_at _ _ k3.out 7 (.string el) rfl
            clear hb3
            go_wp2_with fail
            refine (nameX_any th _ ht).mono ?_; rintro e w4 ⟨rfl, rfl⟩; rw [h4]
            go_wp2_with fail
            refine (nameX_any el _ he).mono ?_; rintro e w5 ⟨rfl, rfl⟩; rw [h5]
            go_wp2_with fail
            go_ret
            exact ⟨rfl, below_end k3.out⟩
end Go.Proofs.YtobchllaopdchabGreat
