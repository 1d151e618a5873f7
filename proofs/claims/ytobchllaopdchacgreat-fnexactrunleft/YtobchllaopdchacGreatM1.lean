/-
  Several texts in one.
-/
import Derived.Test.YtobchllaopdchacGreatM0
namespace Go.Proofs.YtobchllaopdchacGreat
open Go.RowKit
def isT (s : ByteArray) (l : List UInt8) : Bool := s.toList == l
def endI (s : ByteArray) : Int := if isT s [103, 111, 111, 100] = true then 1 else if isT s [115, 97, 118, 101, 100] = true then 2 else if isT s [115, 99, 114, 97, 112, 112, 101, 100] = true then 3 else 0
set_option maxRecDepth 100000 in
set_option maxHeartbeats 4000000 in
theorem endX_any (s : ByteArray) (w : World) : Calls Tryz.prog 98 #[.string s] w fun e w' => e = .returned (.int .i64 (endI s)) ∧ w' = w := by
  unfold endI
  cases h1 : isT s [103, 111, 111, 100]
  · cases h2 : isT s [115, 97, 118, 101, 100]
    · cases h3 : isT s [115, 99, 114, 97, 112, 112, 101, 100]
      · unfold isT at h1 h2 h3
        go_enter Tryz.func98, Tryz.ntmps98
        go_wp2
        go_ret
        exact ⟨rfl, rfl⟩
      · unfold isT at h1 h2 h3
        go_enter Tryz.func98, Tryz.ntmps98
        go_wp2
        go_ret
        exact ⟨rfl, rfl⟩
    · unfold isT at h1 h2
      go_enter Tryz.func98, Tryz.ntmps98
      go_wp2
      go_ret
      exact ⟨rfl, rfl⟩
  · unfold isT at h1
    go_enter Tryz.func98, Tryz.ntmps98
    go_wp2
    go_ret
    exact ⟨rfl, rfl⟩
end Go.Proofs.YtobchllaopdchacGreat

namespace Go.Proofs.YtobchllaopdchacGreat
open Go.RowKit
def OkN (a : Int) : Prop := -9223372036854775808 ≤ a ∧ a ≤ 9223372036854775807
def plainB (s : ByteArray) : Bool := nameB s && (endI s == 0)
def argsB (p : DRecPhase) : Bool :=
  if p.2.1 = 1 then nameB p.2.2.1 && nameB p.2.2.2.1 && inB p.2.2.2.2.1 1 1000
  else if p.2.1 = 2 then nameB p.2.2.1 && nameB p.2.2.2.1 && !(eqB p.2.2.1 p.2.2.2.1) && inB p.2.2.2.2.1 1 1000
  else if p.2.1 = 3 then nameB p.2.2.1 && isT p.2.2.2.1 [] && inB p.2.2.2.2.1 1 p.2.2.2.2.2.1
  else if p.2.1 = 4 ∨ p.2.1 = 5 then nameB p.2.2.1 && isT p.2.2.2.1 [] && (p.2.2.2.2.1 == 0)
  else false
def phaseB (p : DRecPhase) : Bool := plainB p.1 && inB p.2.2.2.2.2.1 1 1000 && argsB p && nameB p.2.2.2.2.2.2.1 && nameB p.2.2.2.2.2.2.2
set_option maxHeartbeats 400000 in
theorem inX_any (n lo hi : Int) (w : World) : Calls Tryz.prog 28 #[.int .i64 n, .int .i64 lo, .int .i64 hi] w fun e w' => e = .returned (.bool (inB n lo hi)) ∧ w' = w := by
  by_cases h1 : lo ≤ n
  · by_cases h2 : n ≤ hi
    · have hw : inB n lo hi = true := by simp [inB, h1, h2]
      rw [hw]
      go_enter Tryz.func28, Tryz.ntmps28
      go_wp2
      go_ret
      exact ⟨rfl, rfl⟩
    · have hw : inB n lo hi = false := by simp [inB]; omega
      rw [hw]
      go_enter Tryz.func28, Tryz.ntmps28
      go_wp2
      go_ret
      exact ⟨rfl, rfl⟩
  · have hw : inB n lo hi = false := by simp [inB]; omega
    rw [hw]
    go_enter Tryz.func28, Tryz.ntmps28
    go_wp2
    go_ret
    exact ⟨rfl, rfl⟩
set_option maxRecDepth 100000 in
set_option maxHeartbeats 1000000 in
theorem nameX_any (s : ByteArray) (w : World) (hs : s.size ≤ maxLen) : Calls Tryz.prog 55 #[.string s] w fun e w' => e = .returned (.bool (nameB s)) ∧ w' = w := by
  unfold maxLen at hs
  by_cases hl : 1 ≤ s.size ∧ s.size ≤ 8
  · have hin : inB (s.size : Int) 1 8 = true := by simp [inB]; omega
    go_enter Tryz.func55, Tryz.ntmps55
    go_wp2_with (go_at_call 28; refine (inX_any _ _ _ _).mono ?_; rintro e w1 ⟨rfl, rfl⟩; rw [hin])
    go_loop [3] (fun i => ∃ k : Nat, k ≤ s.size ∧ i = .int .i64 k ∧ Hid (∀ j (hj : j < s.size), j < k → okn s[j].toNat = true)) (fun i => s.size - (intOf i).toNat)
    case atStart => exact ⟨0, Nat.zero_le _, rfl, fun _ _ h => by omega⟩
    case round =>
      obtain ⟨k, hk, rfl, hno⟩ := hrel
      by_cases hlt : k < s.size
      · have hb := s[k].toNat_lt
        have HN : Hid (okn s[k].toNat = false → nameB s = false) := fun h => name_bad hlt h
        rcases (show (s[k].toNat : Int) < 45 ∨ (s[k].toNat : Int) = 45 ∨ (45 < (s[k].toNat : Int) ∧ (s[k].toNat : Int) < 48) ∨ (48 ≤ (s[k].toNat : Int) ∧ (s[k].toNat : Int) ≤ 57) ∨ (57 < (s[k].toNat : Int) ∧ (s[k].toNat : Int) < 97) ∨ (97 ≤ (s[k].toNat : Int) ∧ (s[k].toNat : Int) ≤ 122) ∨ 122 < (s[k].toNat : Int) by omega) with h | h | ⟨h, h'⟩ | ⟨h, h'⟩ | ⟨h, h'⟩ | ⟨h, h'⟩ | h
        · have h45 : ((s[k].toNat : Int) == 45) = false := by simp; omega
          have HO : Hid (okn s[k].toNat = false) := by simp [Hid, okn]; omega
          go_wp2
          rw [HN.out HO.out]
          go_ret
          exact ⟨rfl, rfl⟩
        · have h45 : ((s[k].toNat : Int) == 45) = true := by rw [h]; rfl
          have HO : Hid (okn s[k].toNat = true) := by rw [h]; rfl
          have ha : (s[k].toNat : Int) ≤ 45 := by omega
          clear h
          go_wp2
          go_round
          case rel => exact ⟨k + 1, by omega, by go_num, fun j hj hjk => by
            by_cases e : j = k
            · subst e; exact HO.out
            · exact hno.out j hj (by omega)⟩
          case measure => simp [intOf]; omega
        · have h45 : ((s[k].toNat : Int) == 45) = false := by simp; omega
          have HO : Hid (okn s[k].toNat = false) := by simp [Hid, okn]; omega
          go_wp2
          rw [HN.out HO.out]
          go_ret
          exact ⟨rfl, rfl⟩
        · have h45 : ((s[k].toNat : Int) == 45) = false := by simp; omega
          have HO : Hid (okn s[k].toNat = true) := by simp [Hid, okn]; omega
          go_wp2
          go_round
          case rel => exact ⟨k + 1, by omega, by go_num, fun j hj hjk => by
            by_cases e : j = k
            · subst e; exact HO.out
            · exact hno.out j hj (by omega)⟩
          case measure => simp [intOf]; omega
        · have h45 : ((s[k].toNat : Int) == 45) = false := by simp; omega
          have HO : Hid (okn s[k].toNat = false) := by simp [Hid, okn]; omega
          have d57 : decide ((s[k].toNat : Int) ≤ 57) = false := by simp; omega
          go_wp2
          rw [HN.out HO.out]
          go_ret
          exact ⟨rfl, rfl⟩
        · have h45 : ((s[k].toNat : Int) == 45) = false := by simp; omega
          have HO : Hid (okn s[k].toNat = true) := by simp [Hid, okn]; omega
          go_wp2
          go_round
          case rel => exact ⟨k + 1, by omega, by go_num, fun j hj hjk => by
            by_cases e : j = k
            · subst e; exact HO.out
            · exact hno.out j hj (by omega)⟩
          case measure => simp [intOf]; omega
        · have h45 : ((s[k].toNat : Int) == 45) = false := by simp; omega
          have HO : Hid (okn s[k].toNat = false) := by simp [Hid, okn]; omega
          have d57 : decide ((s[k].toNat : Int) ≤ 57) = false := by simp; omega
          have d122 : decide ((s[k].toNat : Int) ≤ 122) = false := by simp; omega
          go_wp2
          rw [HN.out HO.out]
          go_ret
          exact ⟨rfl, rfl⟩
      · go_wp2
        go_ret
        have hkn : k = s.size := by omega
        subst hkn
        rw [name_all hl (fun j hj => hno.out j hj hj)]
        exact ⟨rfl, rfl⟩
  · have hin : inB (s.size : Int) 1 8 = false := by simp [inB]; omega
    rw [name_short hl]
    go_enter Tryz.func55, Tryz.ntmps55
    go_wp2_with (go_at_call 28; refine (inX_any _ _ _ _).mono ?_; rintro e w1 ⟨rfl, rfl⟩; rw [hin])
    go_ret
    exact ⟨rfl, rfl⟩
set_option maxRecDepth 100000 in
set_option maxHeartbeats 4000000 in
theorem plainX_any (s : ByteArray) (w : World) (hs : s.size ≤ maxLen) : Calls Tryz.prog 132 #[.string s] w fun e w' => e = .returned (.bool (plainB s)) ∧ w' = w := by
  cases h1 : nameB s
  · have hw : plainB s = false := by simp [plainB, h1]
    rw [hw]
    go_enter Tryz.func132, Tryz.ntmps132
    go_wp2_with fail
    refine (nameX_any s w hs).mono ?_; rintro e w1 ⟨rfl, rfl⟩; rw [h1]
    go_wp2_with fail
    go_ret
    exact ⟨rfl, rfl⟩
  · by_cases h2 : endI s = 0
    · have hw : plainB s = true := by simp [plainB, h1, h2]
      rw [hw]
      go_enter Tryz.func132, Tryz.ntmps132
      go_wp2_with fail
      refine (nameX_any s w hs).mono ?_; rintro e w1 ⟨rfl, rfl⟩; rw [h1]
      go_wp2_with fail
      refine (endX_any s _).mono ?_; rintro e w2 ⟨rfl, rfl⟩; rw [h2]
      go_wp2_with fail
      go_ret
      exact ⟨rfl, rfl⟩
    · have hw : plainB s = false := by simp [plainB, h1, h2]
      rw [hw]
      go_enter Tryz.func132, Tryz.ntmps132
      go_wp2_with fail
      refine (nameX_any s w hs).mono ?_; rintro e w1 ⟨rfl, rfl⟩; rw [h1]
      go_wp2_with fail
      refine (endX_any s _).mono ?_; rintro e w2 ⟨rfl, rfl⟩
      have h3 : (endI s == 0) = false := by simp [h2]
      go_wp2_with fail
      go_ret
      exact ⟨rfl, rfl⟩
set_option maxRecDepth 100000 in
set_option maxHeartbeats 4000000 in
theorem argsX_any (nm a b th el : ByteArray) (kd n wi : Int) (w : World) (ha : a.size ≤ maxLen) (hb : b.size ≤ maxLen) : Calls Tryz.prog 133 #[.agg #[.string nm, .int .i64 kd, .string a, .string b, .int .i64 n, .int .i64 wi, .string th, .string el]] w fun e w' => e = .returned (.bool (argsB (nm, kd, a, b, n, wi, th, el))) ∧ Below w.heap.size w w' := by
  by_cases k1 : kd = 1
  · subst k1
    cases h1 : nameB a
    · have _u := trivial
      have hw : argsB (nm, 1, a, b, n, wi, th, el) = false := by simp [argsB, h1]
      rw [hw]
      go_enter Tryz.func133, Tryz.ntmps133
      go_wp2_with fail
      refine (nameX_any a _ ha).mono ?_; rintro e w1 ⟨rfl, rfl⟩; rw [h1]
      go_wp2_with fail
      go_ret
      exact ⟨rfl, (Below.refl _ _).alloc (Nat.le_refl _) _⟩
    · have _u := trivial
      cases h2 : nameB b
      · have _u := trivial
        have hw : argsB (nm, 1, a, b, n, wi, th, el) = false := by simp [argsB, h1, h2]
        rw [hw]
        go_enter Tryz.func133, Tryz.ntmps133
        go_wp2_with fail
        refine (nameX_any a _ ha).mono ?_; rintro e w1 ⟨rfl, rfl⟩; rw [h1]
        go_wp2_with fail
        refine (nameX_any b _ hb).mono ?_; rintro e w2 ⟨rfl, rfl⟩; rw [h2]
        go_wp2_with fail
        go_ret
        exact ⟨rfl, (Below.refl _ _).alloc (Nat.le_refl _) _⟩
      · have _u := trivial
        cases h3 : inB n 1 1000
        · have _u := trivial
          have hw : argsB (nm, 1, a, b, n, wi, th, el) = false := by simp [argsB, h1, h2, h3]
          rw [hw]
          go_enter Tryz.func133, Tryz.ntmps133
          go_wp2_with fail
          refine (nameX_any a _ ha).mono ?_; rintro e w1 ⟨rfl, rfl⟩; rw [h1]
          go_wp2_with fail
          refine (nameX_any b _ hb).mono ?_; rintro e w2 ⟨rfl, rfl⟩; rw [h2]
          go_wp2_with fail
          refine (inX_any n 1 1000 _).mono ?_; rintro e w3 ⟨rfl, rfl⟩; rw [h3]
          go_wp2_with fail
          go_ret
          exact ⟨rfl, (Below.refl _ _).alloc (Nat.le_refl _) _⟩
        · have _u := trivial
          have hw : argsB (nm, 1, a, b, n, wi, th, el) = true := by simp [argsB, h1, h2, h3]
          rw [hw]
          go_enter Tryz.func133, Tryz.ntmps133
          go_wp2_with fail
          refine (nameX_any a _ ha).mono ?_; rintro e w1 ⟨rfl, rfl⟩; rw [h1]
          go_wp2_with fail
          refine (nameX_any b _ hb).mono ?_; rintro e w2 ⟨rfl, rfl⟩; rw [h2]
          go_wp2_with fail
          refine (inX_any n 1 1000 _).mono ?_; rintro e w3 ⟨rfl, rfl⟩; rw [h3]
          go_wp2_with fail
          go_ret
          exact ⟨rfl, (Below.refl _ _).alloc (Nat.le_refl _) _⟩
  by_cases k2 : kd = 2
  · subst k2
    cases h1 : nameB a
    · have _u := trivial
      have hw : argsB (nm, 2, a, b, n, wi, th, el) = false := by simp [argsB, h1]
      rw [hw]
      go_enter Tryz.func133, Tryz.ntmps133
      go_wp2_with fail
      refine (nameX_any a _ ha).mono ?_; rintro e w1 ⟨rfl, rfl⟩; rw [h1]
      go_wp2_with fail
      go_ret
      exact ⟨rfl, (Below.refl _ _).alloc (Nat.le_refl _) _⟩
    · have _u := trivial
      cases h2 : nameB b
      · have _u := trivial
        have hw : argsB (nm, 2, a, b, n, wi, th, el) = false := by simp [argsB, h1, h2]
        rw [hw]
        go_enter Tryz.func133, Tryz.ntmps133
        go_wp2_with fail
        refine (nameX_any a _ ha).mono ?_; rintro e w1 ⟨rfl, rfl⟩; rw [h1]
        go_wp2_with fail
        refine (nameX_any b _ hb).mono ?_; rintro e w2 ⟨rfl, rfl⟩; rw [h2]
        go_wp2_with fail
        go_ret
        exact ⟨rfl, (Below.refl _ _).alloc (Nat.le_refl _) _⟩
      · have _u := trivial
        cases h3 : !(eqB a b)
        · have _u := trivial
          have hw : argsB (nm, 2, a, b, n, wi, th, el) = false := by simp [argsB, h1, h2, h3]
          rw [hw]
          unfold eqB at h3
          go_enter Tryz.func133, Tryz.ntmps133
          go_wp2_with fail
          refine (nameX_any a _ ha).mono ?_; rintro e w1 ⟨rfl, rfl⟩; rw [h1]
          go_wp2_with fail
          refine (nameX_any b _ hb).mono ?_; rintro e w2 ⟨rfl, rfl⟩; rw [h2]
          go_wp2_with fail
          go_ret
          exact ⟨rfl, (Below.refl _ _).alloc (Nat.le_refl _) _⟩
        · have _u := trivial
          cases h4 : inB n 1 1000
          · have _u := trivial
            have hw : argsB (nm, 2, a, b, n, wi, th, el) = false := by simp [argsB, h1, h2, h3, h4]
            rw [hw]
            unfold eqB at h3
            go_enter Tryz.func133, Tryz.ntmps133
            go_wp2_with fail
            refine (nameX_any a _ ha).mono ?_; rintro e w1 ⟨rfl, rfl⟩; rw [h1]
            go_wp2_with fail
            refine (nameX_any b _ hb).mono ?_; rintro e w2 ⟨rfl, rfl⟩; rw [h2]
            go_wp2_with fail
            refine (inX_any n 1 1000 _).mono ?_; rintro e w4 ⟨rfl, rfl⟩; rw [h4]
            go_wp2_with fail
            go_ret
            exact ⟨rfl, (Below.refl _ _).alloc (Nat.le_refl _) _⟩
          · have _u := trivial
            have hw : argsB (nm, 2, a, b, n, wi, th, el) = true := by simp [argsB, h1, h2, h3, h4]
            rw [hw]
            unfold eqB at h3
            go_enter Tryz.func133, Tryz.ntmps133
            go_wp2_with fail
            refine (nameX_any a _ ha).mono ?_; rintro e w1 ⟨rfl, rfl⟩; rw [h1]
            go_wp2_with fail
            refine (nameX_any b _ hb).mono ?_; rintro e w2 ⟨rfl, rfl⟩; rw [h2]
            go_wp2_with fail
            refine (inX_any n 1 1000 _).mono ?_; rintro e w4 ⟨rfl, rfl⟩; rw [h4]
            go_wp2_with fail
            go_ret
            exact ⟨rfl, (Below.refl _ _).alloc (Nat.le_refl _) _⟩
  by_cases k3 : kd = 3
  · subst k3
    cases h1 : nameB a
    · have _u := trivial
      have hw : argsB (nm, 3, a, b, n, wi, th, el) = false := by simp [argsB, h1]
      rw [hw]
      go_enter Tryz.func133, Tryz.ntmps133
      go_wp2_with fail
      refine (nameX_any a _ ha).mono ?_; rintro e w1 ⟨rfl, rfl⟩; rw [h1]
      go_wp2_with fail
      go_ret
      exact ⟨rfl, (Below.refl _ _).alloc (Nat.le_refl _) _⟩
    · have _u := trivial
      cases h2 : isT b []
      · have _u := trivial
        have hw : argsB (nm, 3, a, b, n, wi, th, el) = false := by simp [argsB, h1, h2]
        rw [hw]
        unfold isT at h2
        go_enter Tryz.func133, Tryz.ntmps133
        go_wp2_with fail
        refine (nameX_any a _ ha).mono ?_; rintro e w1 ⟨rfl, rfl⟩; rw [h1]
        go_wp2_with fail
        go_ret
        exact ⟨rfl, (Below.refl _ _).alloc (Nat.le_refl _) _⟩
      · have _u := trivial
        cases h3 : inB n 1 wi
        · have _u := trivial
          have hw : argsB (nm, 3, a, b, n, wi, th, el) = false := by simp [argsB, h1, h2, h3]
          rw [hw]
          unfold isT at h2
          go_enter Tryz.func133, Tryz.ntmps133
          go_wp2_with fail
          refine (nameX_any a _ ha).mono ?_; rintro e w1 ⟨rfl, rfl⟩; rw [h1]
          go_wp2_with fail
          refine (inX_any n 1 wi _).mono ?_; rintro e w3 ⟨rfl, rfl⟩; rw [h3]
          go_wp2_with fail
          go_ret
          exact ⟨rfl, (Below.refl _ _).alloc (Nat.le_refl _) _⟩
        · have _u := trivial
          have hw : argsB (nm, 3, a, b, n, wi, th, el) = true := by simp [argsB, h1, h2, h3]
          rw [hw]
          unfold isT at h2
          go_enter Tryz.func133, Tryz.ntmps133
          go_wp2_with fail
          refine (nameX_any a _ ha).mono ?_; rintro e w1 ⟨rfl, rfl⟩; rw [h1]
          go_wp2_with fail
          refine (inX_any n 1 wi _).mono ?_; rintro e w3 ⟨rfl, rfl⟩; rw [h3]
          go_wp2_with fail
          go_ret
          exact ⟨rfl, (Below.refl _ _).alloc (Nat.le_refl _) _⟩
  by_cases k4 : kd = 4
  · subst k4
    cases h1 : nameB a
    · have _u := trivial
      have hw : argsB (nm, 4, a, b, n, wi, th, el) = false := by simp [argsB, h1]
      rw [hw]
      go_enter Tryz.func133, Tryz.ntmps133
      go_wp2_with fail
      refine (nameX_any a _ ha).mono ?_; rintro e w1 ⟨rfl, rfl⟩; rw [h1]
      go_wp2_with fail
      go_ret
      exact ⟨rfl, (Below.refl _ _).alloc (Nat.le_refl _) _⟩
    · have _u := trivial
      cases h2 : isT b []
      · have _u := trivial
        have hw : argsB (nm, 4, a, b, n, wi, th, el) = false := by simp [argsB, h1, h2]
        rw [hw]
        unfold isT at h2
        go_enter Tryz.func133, Tryz.ntmps133
        go_wp2_with fail
        refine (nameX_any a _ ha).mono ?_; rintro e w1 ⟨rfl, rfl⟩; rw [h1]
        go_wp2_with fail
        go_ret
        exact ⟨rfl, (Below.refl _ _).alloc (Nat.le_refl _) _⟩
      · have _u := trivial
        cases h3 : (n == 0)
        · have _u := trivial
          have hw : argsB (nm, 4, a, b, n, wi, th, el) = false := by simp [argsB, h1, h2, h3]
          rw [hw]
          unfold isT at h2
          go_enter Tryz.func133, Tryz.ntmps133
          go_wp2_with fail
          refine (nameX_any a _ ha).mono ?_; rintro e w1 ⟨rfl, rfl⟩; rw [h1]
          go_wp2_with fail
          go_ret
          exact ⟨rfl, (Below.refl _ _).alloc (Nat.le_refl _) _⟩
        · have _u := trivial
          have hw : argsB (nm, 4, a, b, n, wi, th, el) = true := by simp [argsB, h1, h2, h3]
          rw [hw]
          unfold isT at h2
          go_enter Tryz.func133, Tryz.ntmps133
          go_wp2_with fail
          refine (nameX_any a _ ha).mono ?_; rintro e w1 ⟨rfl, rfl⟩; rw [h1]
          go_wp2_with fail
          go_ret
          exact ⟨rfl, (Below.refl _ _).alloc (Nat.le_refl _) _⟩
  by_cases k5 : kd = 5
  · subst k5
    cases h1 : nameB a
    · have _u := trivial
      have hw : argsB (nm, 5, a, b, n, wi, th, el) = false := by simp [argsB, h1]
      rw [hw]
      go_enter Tryz.func133, Tryz.ntmps133
      go_wp2_with fail
      refine (nameX_any a _ ha).mono ?_; rintro e w1 ⟨rfl, rfl⟩; rw [h1]
      go_wp2_with fail
      go_ret
      exact ⟨rfl, (Below.refl _ _).alloc (Nat.le_refl _) _⟩
    · have _u := trivial
      cases h2 : isT b []
      · have _u := trivial
        have hw : argsB (nm, 5, a, b, n, wi, th, el) = false := by simp [argsB, h1, h2]
        rw [hw]
        unfold isT at h2
        go_enter Tryz.func133, Tryz.ntmps133
        go_wp2_with fail
        refine (nameX_any a _ ha).mono ?_; rintro e w1 ⟨rfl, rfl⟩; rw [h1]
        go_wp2_with fail
        go_ret
        exact ⟨rfl, (Below.refl _ _).alloc (Nat.le_refl _) _⟩
      · have _u := trivial
        cases h3 : (n == 0)
        · have _u := trivial
          have hw : argsB (nm, 5, a, b, n, wi, th, el) = false := by simp [argsB, h1, h2, h3]
          rw [hw]
          unfold isT at h2
          go_enter Tryz.func133, Tryz.ntmps133
          go_wp2_with fail
          refine (nameX_any a _ ha).mono ?_; rintro e w1 ⟨rfl, rfl⟩; rw [h1]
          go_wp2_with fail
          go_ret
          exact ⟨rfl, (Below.refl _ _).alloc (Nat.le_refl _) _⟩
        · have _u := trivial
          have hw : argsB (nm, 5, a, b, n, wi, th, el) = true := by simp [argsB, h1, h2, h3]
          rw [hw]
          unfold isT at h2
          go_enter Tryz.func133, Tryz.ntmps133
          go_wp2_with fail
          refine (nameX_any a _ ha).mono ?_; rintro e w1 ⟨rfl, rfl⟩; rw [h1]
          go_wp2_with fail
          go_ret
          exact ⟨rfl, (Below.refl _ _).alloc (Nat.le_refl _) _⟩
  have hw : argsB (nm, kd, a, b, n, wi, th, el) = false := by simp [argsB, k1, k2, k3, k4, k5]
  rw [hw]
  go_enter Tryz.func133, Tryz.ntmps133
  go_wp2_with fail
  go_ret
  exact ⟨rfl, (Below.refl _ _).alloc (Nat.le_refl _) _⟩
set_option maxRecDepth 100000 in
set_option maxHeartbeats 4000000 in
theorem phaseX_any (nm a b th el : ByteArray) (kd n wi : Int) (w : World) (hn : nm.size ≤ maxLen) (ha : a.size ≤ maxLen) (hb : b.size ≤ maxLen) (ht : th.size ≤ maxLen) (he : el.size ≤ maxLen) : Calls Tryz.prog 97 #[.agg #[.string nm, .int .i64 kd, .string a, .string b, .int .i64 n, .int .i64 wi, .string th, .string el]] w fun e w' => e = .returned (.bool (phaseB (nm, kd, a, b, n, wi, th, el))) ∧ Below w.heap.size w w' := by
  cases h1 : plainB nm
  · have _u := trivial
    have hw : phaseB (nm, kd, a, b, n, wi, th, el) = false := by simp [phaseB, h1]
    rw [hw]
    go_enter Tryz.func97, Tryz.ntmps97
    go_wp2_with fail
    refine (plainX_any nm _ hn).mono ?_; rintro e w1 ⟨rfl, rfl⟩; rw [h1]
    go_wp2_with fail
    go_ret
    exact ⟨rfl, (Below.refl _ _).alloc (Nat.le_refl _) _⟩
  · have _u := trivial
    cases h2 : inB wi 1 1000
    · have _u := trivial
      have hw : phaseB (nm, kd, a, b, n, wi, th, el) = false := by simp [phaseB, h1, h2]
      rw [hw]
      go_enter Tryz.func97, Tryz.ntmps97
      go_wp2_with fail
      refine (plainX_any nm _ hn).mono ?_; rintro e w1 ⟨rfl, rfl⟩; rw [h1]
      go_wp2_with fail
      refine (inX_any wi 1 1000 _).mono ?_; rintro e w2 ⟨rfl, rfl⟩; rw [h2]
      go_wp2_with fail
      go_ret
      exact ⟨rfl, (Below.refl _ _).alloc (Nat.le_refl _) _⟩
    · have _u := trivial
      cases h3 : argsB (nm, kd, a, b, n, wi, th, el)
      · have _u := trivial
        have hw : phaseB (nm, kd, a, b, n, wi, th, el) = false := by simp [phaseB, h1, h2, h3]
        rw [hw]
        go_enter Tryz.func97, Tryz.ntmps97
        go_wp2_with fail
        refine (plainX_any nm _ hn).mono ?_; rintro e w1 ⟨rfl, rfl⟩; rw [h1]
        go_wp2_with fail
        refine (inX_any wi 1 1000 _).mono ?_; rintro e w2 ⟨rfl, rfl⟩; rw [h2]
        go_wp2_with fail
        refine (argsX_any nm a b th el kd n wi _ ha hb).mono ?_; rintro e w3 ⟨rfl, hb3⟩; rw [h3]
        have k3 : Hid (Below (w.heap.size + 1) (w.alloc (.cells #[.string nm, .int .i64 kd, .string a, .string b, .int .i64 n, .int .i64 wi, .string th, .string el] 75)) w3) := below_of (Below.refl _ _) hb3
        have x6 := box_at _ _ k3.out 6 (.string th) rfl
        have x7 := box_at _ _ k3.out 7 (.string el) rfl
        clear hb3
        go_wp2_with fail
        go_ret
        exact ⟨rfl, below_end k3.out⟩
      · have _u := trivial
        cases h4 : nameB th
        · have _u := trivial
          have hw : phaseB (nm, kd, a, b, n, wi, th, el) = false := by simp [phaseB, h1, h2, h3, h4]
          rw [hw]
          go_enter Tryz.func97, Tryz.ntmps97
          go_wp2_with fail
          refine (plainX_any nm _ hn).mono ?_; rintro e w1 ⟨rfl, rfl⟩; rw [h1]
          go_wp2_with fail
          refine (inX_any wi 1 1000 _).mono ?_; rintro e w2 ⟨rfl, rfl⟩; rw [h2]
          go_wp2_with fail
          refine (argsX_any nm a b th el kd n wi _ ha hb).mono ?_; rintro e w3 ⟨rfl, hb3⟩; rw [h3]
          have k3 : Hid (Below (w.heap.size + 1) (w.alloc (.cells #[.string nm, .int .i64 kd, .string a, .string b, .int .i64 n, .int .i64 wi, .string th, .string el] 75)) w3) := below_of (Below.refl _ _) hb3
          have x6 := box_at _ _ k3.out 6 (.string th) rfl
          have x7 := box_at _ _ k3.out 7 (.string el) rfl
          clear hb3
          go_wp2_with fail
          refine (nameX_any th _ ht).mono ?_; rintro e w4 ⟨rfl, rfl⟩; rw [h4]
          go_wp2_with fail
          go_ret
          exact ⟨rfl, below_end k3.out⟩
        · have _u := trivial
          cases h5 : nameB el
          · have _u := trivial
            have hw : phaseB (nm, kd, a, b, n, wi, th, el) = false := by simp [phaseB, h1, h2, h3, h4, h5]
            rw [hw]
            go_enter Tryz.func97, Tryz.ntmps97
            go_wp2_with fail
            refine (plainX_any nm _ hn).mono ?_; rintro e w1 ⟨rfl, rfl⟩; rw [h1]
            go_wp2_with fail
            refine (inX_any wi 1 1000 _).mono ?_; rintro e w2 ⟨rfl, rfl⟩; rw [h2]
            go_wp2_with fail
            refine (argsX_any nm a b th el kd n wi _ ha hb).mono ?_; rintro e w3 ⟨rfl, hb3⟩; rw [h3]
            have k3 : Hid (Below (w.heap.size + 1) (w.alloc (.cells #[.string nm, .int .i64 kd, .string a, .string b, .int .i64 n, .int .i64 wi, .string th, .string el] 75)) w3) := below_of (Below.refl _ _) hb3
            have x6 := box_at _ _ k3.out 6 (.string th) rfl
            have x7 := box_at _ _ k3.out 7 (.string el) rfl
            clear hb3
            go_wp2_with fail
            refine (nameX_any th _ ht).mono ?_; rintro e w4 ⟨rfl, rfl⟩; rw [h4]
            go_wp2_with fail
            refine (nameX_any el _ he).mono ?_; rintro e w5 ⟨rfl, rfl⟩; rw [h5]
            go_wp2_with fail
            go_ret
            exact ⟨rfl, below_end k3.out⟩
          · have _u := trivial
            have hw : phaseB (nm, kd, a, b, n, wi, th, el) = true := by simp [phaseB, h1, h2, h3, h4, h5]
            rw [hw]
            go_enter Tryz.func97, Tryz.ntmps97
            go_wp2_with fail
            refine (plainX_any nm _ hn).mono ?_; rintro e w1 ⟨rfl, rfl⟩; rw [h1]
            go_wp2_with fail
            refine (inX_any wi 1 1000 _).mono ?_; rintro e w2 ⟨rfl, rfl⟩; rw [h2]
            go_wp2_with fail
            refine (argsX_any nm a b th el kd n wi _ ha hb).mono ?_; rintro e w3 ⟨rfl, hb3⟩; rw [h3]
            have k3 : Hid (Below (w.heap.size + 1) (w.alloc (.cells #[.string nm, .int .i64 kd, .string a, .string b, .int .i64 n, .int .i64 wi, .string th, .string el] 75)) w3) := below_of (Below.refl _ _) hb3
            have x6 := box_at _ _ k3.out 6 (.string th) rfl
            have x7 := box_at _ _ k3.out 7 (.string el) rfl
            clear hb3
            go_wp2_with fail
            refine (nameX_any th _ ht).mono ?_; rintro e w4 ⟨rfl, rfl⟩; rw [h4]
            go_wp2_with fail
            refine (nameX_any el _ he).mono ?_; rintro e w5 ⟨rfl, rfl⟩; rw [h5]
            go_wp2_with fail
            go_ret
            exact ⟨rfl, below_end k3.out⟩
end Go.Proofs.YtobchllaopdchacGreat

namespace Go.Proofs.YtobchllaopdchacGreat
open Go.RowKit
def atI (r : List DRecPhase) (x : ByteArray) : Int := idxI r (fun p : DRecPhase => eqB p.1 x)
def goesB (r : List DRecPhase) (i : Nat) (x : ByteArray) : Bool := !(endI x == 0) || decide ((i : Int) < atI r x)
def stepB (r : List DRecPhase) (i : Nat) (p : DRecPhase) : Bool := phaseB p && (atI r p.1 == (i : Int)) && goesB r i p.2.2.2.2.2.2.1 && goesB r i p.2.2.2.2.2.2.2
def RecP (r : List DRecPhase) : Prop := (1 ≤ r.length ∧ r.length ≤ 12) ∧ ∀ i (h : i < r.length), stepB r i r[i] = true
noncomputable def recB (r : List DRecPhase) : Bool := @decide (RecP r) (Classical.propDecidable _)
theorem rec_yes {r : List DRecPhase} (h : RecP r) : recB r = true := by unfold recB; exact @decide_eq_true _ (Classical.propDecidable _) h
theorem rec_no {r : List DRecPhase} (h : ¬ RecP r) : recB r = false := by unfold recB; exact @decide_eq_false _ (Classical.propDecidable _) h
theorem rec_iff {r : List DRecPhase} : recB r = true ↔ RecP r := by unfold recB; exact @decide_eq_true_iff _ (Classical.propDecidable _)
theorem rec_bad {r : List DRecPhase} {k : Nat} (hk : k < r.length) (h : stepB r k r[k] = false) : recB r = false := rec_no (fun hp => by have := hp.2 k hk; rw [h] at this; cases this)
theorem goes_end {r : List DRecPhase} {i : Nat} {x : ByteArray} (h : ¬ endI x = 0) : goesB r i x = true := by simp [goesB, h]
theorem goes_yes {r : List DRecPhase} {i : Nat} {x : ByteArray} (h : ¬ atI r x ≤ (i : Int)) : goesB r i x = true := by simp [goesB]; omega
theorem goes_no {r : List DRecPhase} {i : Nat} {x : ByteArray} (h0 : endI x = 0) (h : atI r x ≤ (i : Int)) : goesB r i x = false := by simp [goesB, h0]; omega
set_option maxRecDepth 100000 in
set_option maxHeartbeats 4000000 in
theorem atX_any (S : Nat → Prop) (r : List DRecPhase) (v : Value) (x : ByteArray) (w : World) (h : AtL S w r v) :
    Calls Tryz.prog 34 #[v, .string x] w fun e w' => e = .returned (.int .i64 (atI r x)) ∧ w' = w := by
  obtain ⟨oa, cap, rfl, hn, hc⟩ := h
  obtain ⟨n, en⟩ : ∃ n, r.length = n := ⟨_, rfl⟩
  rw [en] at hn
  rw [en]
  unfold maxLen at hn
  have HC : Hid _ := hc
  clear hc
  go_enter Tryz.func34, Tryz.ntmps34
  go_wp2
  go_loop [5] (fun i => ∃ k : Nat, k ≤ n ∧ i = .int .i64 k ∧ Hid (∀ j (hj : j < r.length), j < k → (fun p : DRecPhase => eqB p.1 x) r[j] = false)) (fun i => n - (intOf i).toNat)
  case atStart => exact ⟨0, Nat.zero_le _, rfl, fun _ _ h => by omega⟩
  case round =>
    obtain ⟨k, hk, rfl, hno⟩ := hrel
    by_cases hlt : k < n
    · obtain ⟨b, off, rfl, _, cc, hcell, hat⟩ := HC.out k (by omega)
      rw [width_DRecPhase] at hcell
      have e0 : w.cell? ⟨b, off + k * 8, none⟩ = some (cc 0) := by simpa using hcell 0 (by omega)
      clear hcell
      rw [at_DRecPhase] at hat
      rw [hat.1.1] at e0
      clear hat
      obtain ⟨f, ef⟩ : ∃ f, r[k]'(by omega) = f := ⟨_, rfl⟩
      rw [ef] at e0
      cases c0 : (f.1.toList == x.toList)
      · have hp : (fun p : DRecPhase => eqB p.1 x) (r[k]'(by omega)) = false := by rw [ef]; simp [eqB, c0]
        go_wp2
        go_round
        case rel => exact ⟨k + 1, by omega, by go_num, fun j hj hjk => by
          by_cases e : j = k
          · subst e; exact hp
          · exact hno.out j hj (by omega)⟩
        case measure => simp [intOf]; omega
      · have hp : (fun p : DRecPhase => eqB p.1 x) (r[k]'(by omega)) = true := by rw [ef]; simp [eqB, c0]
        go_wp2
        have hr : atI r x = k := idx_yes (p := fun p : DRecPhase => eqB p.1 x) (by omega) hp hno.out
        rw [hr]
        go_ret
        exact ⟨rfl, rfl⟩
    · have hkn : k = n := by omega
      subst hkn
      go_wp2
      go_ret
      have hr : atI r x = -1 := idx_no (p := fun p : DRecPhase => eqB p.1 x) (fun j hj => hno.out j hj (by omega))
      rw [hr]
      exact ⟨rfl, rfl⟩
set_option maxRecDepth 100000 in
set_option maxHeartbeats 4000000 in
theorem okX_any (S : Nat → Prop) (r : List DRecPhase) (v : Value) (w : World) (h : AtL S w r v) (hS : ∀ b, S b → b < w.heap.size) :
    Calls Tryz.prog 56 #[v] w fun e w' => e = .returned (.bool (recB r)) ∧ Below w.heap.size w w' := by
  obtain ⟨oa, cap, ev, hx⟩ := id h
  obtain ⟨hn, hc⟩ := hx
  subst ev
  obtain ⟨n, en⟩ : ∃ n, r.length = n := ⟨_, rfl⟩
  rw [en] at h hn
  rw [en]
  unfold maxLen at hn
  have H : Hid (∀ w', Below w.heap.size w w' → AtL S w' r (.slice oa n cap)) := fun w' hb => h.same (Same.of_below hb hS)
  have HC : Hid _ := hc
  clear hc h
  by_cases hl : 1 ≤ n ∧ n ≤ 12
  · have hin : inB (n : Int) 1 12 = true := by simp [inB]; omega
    go_enter Tryz.func56, Tryz.ntmps56
    go_wp2_with fail
    refine (inX_any _ _ _ _).mono ?_; rintro e w1 ⟨rfl, rfl⟩; rw [hin]
    go_wp2_with fail
    go_loopw [3] (fun i wr => ∃ k : Nat, k ≤ n ∧ i = .int .i64 k ∧ Hid (∀ j (hj : j < r.length), j < k → stepB r j r[j] = true) ∧ Hid (Below w1.heap.size w1 wr)) (fun i _ => n - (intOf i).toNat)
    case atStart => exact ⟨0, Nat.zero_le _, rfl, fun _ _ h => by omega, Below.refl _ _⟩
    case round =>
      obtain ⟨k, hk, rfl, hno, hbel⟩ := hrel
      have hs := hbel.out.size
      by_cases hlt : k < n
      · obtain ⟨b, off, rfl, hbS, cc, hcell, hat⟩ := HC.out k (by omega)
        have hb := hS b hbS
        rw [width_DRecPhase] at hcell
        rw [at_DRecPhase] at hat
        obtain ⟨f, ef⟩ : ∃ f, r[k]'(by omega) = f := ⟨_, rfl⟩
        rw [ef] at hat
        obtain ⟨nm, kd, a, b', n', wi, th, el⟩ := f
        obtain ⟨⟨q0, z0⟩, ⟨q1, _, _⟩, ⟨q2, z2⟩, ⟨q3, z3⟩, ⟨q4, _, _⟩, ⟨q5, _, _⟩, ⟨q6, z6⟩, ⟨q7, z7⟩⟩ := hat
        simp only at q0 q1 q2 q3 q4 q5 q6 q7 z0 z2 z3 z6 z7
        have CELL : Hid (∀ j, j < 8 → w1.cell? ⟨b, off + k * 8 + j, none⟩ = some (cc j)) := fun j hj => hcell j hj
        clear hcell
        have E : Hid (∀ u, Below w1.heap.size w1 u → u.cell? ⟨b, off + k * 8, none⟩ = some (.string nm) ∧ u.cell? ⟨b, off + k * 8 + 1, none⟩ = some (.int .i64 kd) ∧ u.cell? ⟨b, off + k * 8 + 2, none⟩ = some (.string a) ∧ u.cell? ⟨b, off + k * 8 + 3, none⟩ = some (.string b') ∧ u.cell? ⟨b, off + k * 8 + 4, none⟩ = some (.int .i64 n') ∧ u.cell? ⟨b, off + k * 8 + 5, none⟩ = some (.int .i64 wi) ∧ u.cell? ⟨b, off + k * 8 + 6, none⟩ = some (.string th) ∧ u.cell? ⟨b, off + k * 8 + 7, none⟩ = some (.string el)) := fun u hu => by
          rw [← q0, ← q1, ← q2, ← q3, ← q4, ← q5, ← q6, ← q7]
          exact ⟨(hu.cell hb).trans (CELL.out 0 (by omega)), (hu.cell hb).trans (CELL.out 1 (by omega)), (hu.cell hb).trans (CELL.out 2 (by omega)), (hu.cell hb).trans (CELL.out 3 (by omega)), (hu.cell hb).trans (CELL.out 4 (by omega)), (hu.cell hb).trans (CELL.out 5 (by omega)), (hu.cell hb).trans (CELL.out 6 (by omega)), (hu.cell hb).trans (CELL.out 7 (by omega))⟩
        clear q0 q1 q2 q3 q4 q5 q6 q7 CELL
        have HNO : Hid (stepB r k (r[k]'(by omega)) = false → recB r = false) := fun h => rec_bad (by omega) h
        obtain ⟨x0, x1, x2, x3, x4, x5, x6, x7⟩ := E.out wr hbel.out
        go_wp2_with fail
        refine (phaseX_any nm a b' th el kd n' wi _ z0 z2 z3 z6 z7).mono ?_; rintro e u1 ⟨rfl, hb1⟩
        have b1 : Hid (Below w1.heap.size w1 u1) := hbel.out.trans (hb1.mono hs)
        clear x0 x1 x2 x3 x4 x5 x6 x7 hb1
        obtain ⟨x0, x1, x2, x3, x4, x5, x6, x7⟩ := E.out u1 b1.out
        cases c1 : phaseB (nm, kd, a, b', n', wi, th, el)
        · have _u := trivial
          go_wp2_with fail
          rw [HNO.out (by rw [ef]; simp [stepB, c1])]
          go_ret
          exact ⟨rfl, b1.out⟩
        · go_wp2_with fail
          refine (atX_any S r _ nm _ (H.out _ b1.out)).mono ?_; rintro e u2 ⟨rfl, rfl⟩
          by_cases c2 : atI r nm = (k : Int)
          · rw [c2]
            go_wp2_with fail
            refine (endX_any th _).mono ?_; rintro e u3 ⟨rfl, rfl⟩
            by_cases c3 : endI th = 0
            · rw [c3]
              go_wp2_with fail
              refine (atX_any S r _ th _ (H.out _ b1.out)).mono ?_; rintro e u4 ⟨rfl, rfl⟩
              by_cases c4 : atI r th ≤ (k : Int)
              · have g1 : goesB r k th = false := goes_no c3 c4
                go_wp2_with fail
                rw [HNO.out (by rw [ef]; simp [stepB, g1])]
                go_ret
                exact ⟨rfl, b1.out⟩
              · have g1 : goesB r k th = true := goes_yes c4
                go_wp2_with fail
                refine (endX_any el _).mono ?_; rintro e u4 ⟨rfl, rfl⟩
                by_cases c5 : endI el = 0
                · rw [c5]
                  go_wp2_with fail
                  refine (atX_any S r _ el _ (H.out _ b1.out)).mono ?_; rintro e u5 ⟨rfl, rfl⟩
                  by_cases c6 : atI r el ≤ (k : Int)
                  · have g2 : goesB r k el = false := goes_no c5 c6
                    go_wp2_with fail
                    rw [HNO.out (by rw [ef]; simp [stepB, g2])]
                    go_ret
                    exact ⟨rfl, b1.out⟩
                  · have g2 : goesB r k el = true := goes_yes c6
                    go_wp2_with fail
                    go_roundw
                    case rel => exact ⟨k + 1, by omega, by go_num, fun j hj hjk => by
                      by_cases ej : j = k
                      · subst ej; rw [ef]; simp [stepB, c1, c2, g1, g2]
                      · exact hno.out j hj (by omega), b1.out⟩
                    case measure => simp [intOf]; omega
                · have g2 : goesB r k el = true := goes_end c5
                  have c5n : (endI el == 0) = false := by simp [c5]
                  go_wp2_with fail
                  go_roundw
                  case rel => exact ⟨k + 1, by omega, by go_num, fun j hj hjk => by
                    by_cases ej : j = k
                    · subst ej; rw [ef]; simp [stepB, c1, c2, g1, g2]
                    · exact hno.out j hj (by omega), b1.out⟩
                  case measure => simp [intOf]; omega
            · have g1 : goesB r k th = true := goes_end c3
              have c3n : (endI th == 0) = false := by simp [c3]
              go_wp2_with fail
              refine (endX_any el _).mono ?_; rintro e u4 ⟨rfl, rfl⟩
              by_cases c5 : endI el = 0
              · rw [c5]
                go_wp2_with fail
                refine (atX_any S r _ el _ (H.out _ b1.out)).mono ?_; rintro e u5 ⟨rfl, rfl⟩
                by_cases c6 : atI r el ≤ (k : Int)
                · have g2 : goesB r k el = false := goes_no c5 c6
                  go_wp2_with fail
                  rw [HNO.out (by rw [ef]; simp [stepB, g2])]
                  go_ret
                  exact ⟨rfl, b1.out⟩
                · have g2 : goesB r k el = true := goes_yes c6
                  go_wp2_with fail
                  go_roundw
                  case rel => exact ⟨k + 1, by omega, by go_num, fun j hj hjk => by
                    by_cases ej : j = k
                    · subst ej; rw [ef]; simp [stepB, c1, c2, g1, g2]
                    · exact hno.out j hj (by omega), b1.out⟩
                  case measure => simp [intOf]; omega
              · have g2 : goesB r k el = true := goes_end c5
                have c5n : (endI el == 0) = false := by simp [c5]
                go_wp2_with fail
                go_roundw
                case rel => exact ⟨k + 1, by omega, by go_num, fun j hj hjk => by
                  by_cases ej : j = k
                  · subst ej; rw [ef]; simp [stepB, c1, c2, g1, g2]
                  · exact hno.out j hj (by omega), b1.out⟩
                case measure => simp [intOf]; omega
          · have c2n : (atI r nm == (k : Int)) = false := by simp [c2]
            go_wp2_with fail
            rw [HNO.out (by rw [ef]; simp [stepB, c2n])]
            go_ret
            exact ⟨rfl, b1.out⟩
      · have hkn : k = n := by omega
        subst hkn
        go_wp2_with fail
        rw [rec_yes ⟨by omega, fun i hi => hno.out i hi (by omega)⟩]
        go_ret
        exact ⟨rfl, hbel.out⟩
  · have hin : inB (n : Int) 1 12 = false := by simp [inB]; omega
    rw [rec_no (fun hp => hl (by have := hp.1; omega))]
    go_enter Tryz.func56, Tryz.ntmps56
    go_wp2_with fail
    refine (inX_any _ _ _ _).mono ?_; rintro e w1 ⟨rfl, rfl⟩; rw [hin]
    go_wp2_with fail
    go_ret
    exact ⟨rfl, Below.refl _ _⟩
end Go.Proofs.YtobchllaopdchacGreat
