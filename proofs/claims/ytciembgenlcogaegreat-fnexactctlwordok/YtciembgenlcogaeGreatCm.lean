/-
  The model's tests of wants: names, lists of names, uses, a want.
-/
import Derived.Test.YtciembgenlcogaeGreatCo
namespace Go.Proofs.YtciembgenlcogaeGreat.C
open Go.RowKit

set_option maxHeartbeats 400000 in
theorem inC_any (n lo hi : Int) (w : World) : Calls Tryz.prog 44 #[.int .i64 n, .int .i64 lo, .int .i64 hi] w fun e w' => e = .returned (.bool (inB n lo hi)) ∧ w' = w := by
  by_cases h1 : lo ≤ n
  · by_cases h2 : n ≤ hi
    · have hw : inB n lo hi = true := by simp [inB, h1, h2]
      rw [hw]
      go_enter Tryz.func44, Tryz.ntmps44
      go_wp2
      go_ret
      exact ⟨rfl, rfl⟩
    · have hw : inB n lo hi = false := by simp [inB]; omega
      rw [hw]
      go_enter Tryz.func44, Tryz.ntmps44
      go_wp2
      go_ret
      exact ⟨rfl, rfl⟩
  · have hw : inB n lo hi = false := by simp [inB]; omega
    rw [hw]
    go_enter Tryz.func44, Tryz.ntmps44
    go_wp2
    go_ret
    exact ⟨rfl, rfl⟩

set_option maxRecDepth 100000 in
set_option maxHeartbeats 1000000 in
theorem nameC_any (s : ByteArray) (w : World) (hs : s.size ≤ maxLen) : Calls Tryz.prog 71 #[.string s] w fun e w' => e = .returned (.bool (nameB s)) ∧ w' = w := by
  unfold maxLen at hs
  by_cases hl : 1 ≤ s.size ∧ s.size ≤ 8
  · have hin : inB (s.size : Int) 1 8 = true := by simp [inB]; omega
    go_enter Tryz.func71, Tryz.ntmps71
    go_wp2_with (go_at_call 44; refine (inC_any _ _ _ _).mono ?_; rintro e w1 ⟨rfl, rfl⟩; rw [hin])
    go_loop [3] (fun i => ∃ k : Nat, k ≤ s.size ∧ i = .int .i64 k ∧ Hid (∀ j (hj : j < s.size), j < k → okn s[j].toNat = true)) (fun i => s.size - (intOf i).toNat)
    case atStart => exact ⟨0, Nat.zero_le _, rfl, fun _ _ h => by omega⟩
    case round =>
      obtain ⟨k, hk, rfl, hno⟩ := hrel
      by_cases hlt : k < s.size
      · have hb := s[k].toNat_lt
        have HN : Hid (okn s[k].toNat = false → nameB s = false) := fun h => name_bad hlt h
        rcases (show (s[k].toNat : Int) < 45 ∨ (s[k].toNat : Int) = 45 ∨ (45 < (s[k].toNat : Int) ∧ (s[k].toNat : Int) < 48) ∨ (48 ≤ (s[k].toNat : Int) ∧ (s[k].toNat : Int) ≤ 57) ∨ (57 < (s[k].toNat : Int) ∧ (s[k].toNat : Int) < 97) ∨ (97 ≤ (s[k].toNat : Int) ∧ (s[k].toNat : Int) ≤ 122) ∨ 122 < (s[k].toNat : Int) by omega) with h | h | ⟨h, h'⟩ | ⟨h, h'⟩ | ⟨h, h'⟩ | ⟨h, h'⟩ | h
        · have h45 : ((s[k].toNat : Int) == 45) = false := by simp; omega
          have HO : Hid (okn s[k].toNat = false) := by simp [Hid, okn]; omega
          go_wp2
          rw [HN.out HO.out]
          go_ret
          exact ⟨rfl, rfl⟩
        · have h45 : ((s[k].toNat : Int) == 45) = true := by rw [h]; rfl
          have HO : Hid (okn s[k].toNat = true) := by rw [h]; rfl
          have ha : (s[k].toNat : Int) ≤ 45 := by omega
          clear h
          go_wp2
          go_round
          case rel => exact ⟨k + 1, by omega, by go_num, fun j hj hjk => by
            by_cases e : j = k
            · subst e; exact HO.out
            · exact hno.out j hj (by omega)⟩
          case measure => simp [intOf]; omega
        · have h45 : ((s[k].toNat : Int) == 45) = false := by simp; omega
          have HO : Hid (okn s[k].toNat = false) := by simp [Hid, okn]; omega
          go_wp2
          rw [HN.out HO.out]
          go_ret
          exact ⟨rfl, rfl⟩
        · have h45 : ((s[k].toNat : Int) == 45) = false := by simp; omega
          have HO : Hid (okn s[k].toNat = true) := by simp [Hid, okn]; omega
          go_wp2
          go_round
          case rel => exact ⟨k + 1, by omega, by go_num, fun j hj hjk => by
            by_cases e : j = k
            · subst e; exact HO.out
            · exact hno.out j hj (by omega)⟩
          case measure => simp [intOf]; omega
        · have h45 : ((s[k].toNat : Int) == 45) = false := by simp; omega
          have HO : Hid (okn s[k].toNat = false) := by simp [Hid, okn]; omega
          have d57 : decide ((s[k].toNat : Int) ≤ 57) = false := by simp; omega
          go_wp2
          rw [HN.out HO.out]
          go_ret
          exact ⟨rfl, rfl⟩
        · have h45 : ((s[k].toNat : Int) == 45) = false := by simp; omega
          have HO : Hid (okn s[k].toNat = true) := by simp [Hid, okn]; omega
          go_wp2
          go_round
          case rel => exact ⟨k + 1, by omega, by go_num, fun j hj hjk => by
            by_cases e : j = k
            · subst e; exact HO.out
            · exact hno.out j hj (by omega)⟩
          case measure => simp [intOf]; omega
        · have h45 : ((s[k].toNat : Int) == 45) = false := by simp; omega
          have HO : Hid (okn s[k].toNat = false) := by simp [Hid, okn]; omega
          have d57 : decide ((s[k].toNat : Int) ≤ 57) = false := by simp; omega
          have d122 : decide ((s[k].toNat : Int) ≤ 122) = false := by simp; omega
          go_wp2
          rw [HN.out HO.out]
          go_ret
          exact ⟨rfl, rfl⟩
      · go_wp2
        go_ret
        have hkn : k = s.size := by omega
        subst hkn
        rw [name_all hl (fun j hj => hno.out j hj hj)]
        exact ⟨rfl, rfl⟩
  · have hin : inB (s.size : Int) 1 8 = false := by simp [inB]; omega
    rw [name_short hl]
    go_enter Tryz.func71, Tryz.ntmps71
    go_wp2_with (go_at_call 44; refine (inC_any _ _ _ _).mono ?_; rintro e w1 ⟨rfl, rfl⟩; rw [hin])
    go_ret
    exact ⟨rfl, rfl⟩

set_option maxRecDepth 100000 in
set_option maxHeartbeats 8000000 in
theorem hasC_any (S : Nat → Prop) (v : Value) (l : List ByteArray) (x : ByteArray) (w : World) (h : AtL S w l v) :
    Calls Tryz.prog 72 #[v, .string x] w fun e w' => e = .returned (.bool (hasB l x)) ∧ Below w.heap.size w w' := by
  obtain ⟨oa, cap, rfl, hn, hc⟩ := h
  obtain ⟨n, en⟩ : ∃ n, l.length = n := ⟨_, rfl⟩
  rw [en] at hn
  rw [en]
  unfold maxLen at hn
  have HC : Hid _ := hc
  clear hc
  go_enter Tryz.func72, Tryz.ntmps72
  go_wp2
  go_loop [5] (fun i => ∃ k : Nat, k ≤ n ∧ i = .int .i64 k ∧ Hid (∀ j (hj : j < l.length), j < k → (fun f => eqB f x) l[j] = false)) (fun i => n - (intOf i).toNat)
  case atStart => exact ⟨0, Nat.zero_le _, rfl, fun _ _ h => by omega⟩
  case round =>
    obtain ⟨k, hk, rfl, hno⟩ := hrel
    by_cases hlt : k < n
    · obtain ⟨b, off, rfl, hbS, cc, hcell, hat⟩ := HC.out k (by omega)
      rw [width_str] at hcell
      have e0 : w.cell? ⟨b, off + k, none⟩ = some (cc 0) := by simpa using hcell 0 (by omega)
      clear hcell
      rw [at_str] at hat
      rw [hat.1] at e0
      clear hat
      obtain ⟨f, ef⟩ : ∃ f, l[k]'(by omega) = f := ⟨_, rfl⟩
      rw [ef] at e0
      cases c0 : (f.toList == x.toList)
      · have hp : (fun f => eqB f x) (l[k]'(by omega)) = false := by rw [ef]; simp [eqB, c0]
        go_wp2
        go_round
        case rel => exact ⟨k + 1, by omega, by go_num, fun j hj hjk => by
          by_cases e : j = k
          · subst e; exact hp
          · exact hno.out j hj (by omega)⟩
        case measure => simp [intOf]; omega
      · have hp : (fun f => eqB f x) (l[k]'(by omega)) = true := by rw [ef]; simp [eqB, c0]
        go_wp2
        have hr : hasB l x = true := any_yes (p := fun f => eqB f x) (by omega) hp
        rw [hr]
        go_ret
        exact ⟨rfl, (Below.refl _ _)⟩
    · have hkn : k = n := by omega
      subst hkn
      go_wp2
      go_ret
      have hr : hasB l x = false := any_no (p := fun f => eqB f x) (fun j hj => hno.out j hj (by omega))
      rw [hr]
      exact ⟨rfl, (Below.refl _ _)⟩

open Go.Sort in
theorem nameC_q (s : ByteArray) (wr : World) (hs : s.size ≤ maxLen) (r : Bool) (hr : nameB s = r) (d : Nat) (os : Array Obj) : Calls Tryz.prog 71 #[.string s] (grow (redrawn wr d) os) fun e w'' => e = .returned (.bool r) ∧ ∃ p : Regrown, w'' = grow (redrawn wr p.d) p.os :=
  Calls.regrown_of ((nameC_any s _ hs).mono fun _ _ ⟨he, hw⟩ => ⟨by subst hr; exact he, by subst hw; exact Below.refl _ _⟩)
open Go.Sort in
theorem inC_q (n lo hi : Int) (wr : World) (r : Bool) (hr : inB n lo hi = r) (d : Nat) (os : Array Obj) : Calls Tryz.prog 44 #[.int .i64 n, .int .i64 lo, .int .i64 hi] (grow (redrawn wr d) os) fun e w'' => e = .returned (.bool r) ∧ ∃ p : Regrown, w'' = grow (redrawn wr p.d) p.os :=
  Calls.regrown_of ((inC_any n lo hi _).mono fun _ _ ⟨he, hw⟩ => ⟨by subst hr; exact he, by subst hw; exact Below.refl _ _⟩)
/-- Have two lists a name in common? -/
def shareB (a b : List ByteArray) : Bool := a.any fun x => hasB b x

set_option maxRecDepth 100000 in
set_option maxHeartbeats 8000000 in
theorem shareC_any (S : Nat → Prop) (va vb : Value) (a b : List ByteArray) (w : World) (ha : AtL S w a va) (hb : AtL S w b vb) (hS : ∀ b, S b → b < w.heap.size) :
    Calls Tryz.prog 47 #[va, vb] w fun e w' => e = .returned (.bool (shareB a b)) ∧ Below w.heap.size w w' := by
  obtain ⟨oa, cap, rfl, hn, hc⟩ := ha
  obtain ⟨n, en⟩ : ∃ n, a.length = n := ⟨_, rfl⟩
  rw [en] at hn
  rw [en]
  unfold maxLen at hn
  have HC : Hid _ := hc
  have HB : Hid (AtL S w b vb) := hb
  clear hc hb
  go_enter Tryz.func47, Tryz.ntmps47
  go_wp2
  go_loopw [5] (fun i wr => ∃ k : Nat, k ≤ n ∧ i = .int .i64 k ∧ Hid (∀ j (hj : j < a.length), j < k → hasB b a[j] = false) ∧ Hid (Below w.heap.size w wr)) (fun i _ => n - (intOf i).toNat)
  case atStart => exact ⟨0, Nat.zero_le _, rfl, fun _ _ h => by omega, Below.refl _ _⟩
  case round =>
    obtain ⟨k, hk, rfl, hno, hbel⟩ := hrel
    have hs := hbel.out.size
    by_cases hlt : k < n
    · obtain ⟨q, off, rfl, hqS, cc, hcell, hat⟩ := HC.out k (by omega)
      have hq := hS q hqS
      rw [width_str] at hcell
      have e0 : wr.cell? ⟨q, off + k, none⟩ = some (cc 0) := (hbel.out.cell (p := ⟨q, off + k, none⟩) hq).trans (by simpa using hcell 0 (by omega))
      rw [at_str] at hat
      rw [hat.1] at e0
      clear hcell hat
      obtain ⟨f, ef⟩ : ∃ f, a[k]'(by omega) = f := ⟨_, rfl⟩
      rw [ef] at e0
      cases hy : hasB b f
      all_goals
        go_wp2_with (go_at_call 72; refine (hasC_any S vb b f _ (HB.out.same (Same.of_below hbel.out hS))).mono ?_; rintro e w1 ⟨rfl, hb1⟩; rw [hy])
      · go_roundw
        case rel => exact ⟨k + 1, by omega, by go_num, fun j hj hjk => by
          by_cases e : j = k
          · subst e; rw [ef]; exact hy
          · exact hno.out j hj (by omega), hbel.out.trans (hb1.mono hs)⟩
        case measure => simp [intOf]; omega
      · rw [show shareB a b = true from any_yes (k := k) (by omega) (by rw [ef]; exact hy)]
        go_ret
        exact ⟨rfl, hbel.out.trans (hb1.mono hs)⟩
    · go_wp2
      rw [show shareB a b = false from any_no (fun j hj => hno.out j hj (by omega))]
      go_ret
      exact ⟨rfl, hbel.out⟩

set_option maxRecDepth 100000 in
set_option maxHeartbeats 8000000 in
theorem namesC_any (S : Nat → Prop) (v : Value) (l : List ByteArray) (lim : Nat) (w : World) (h : AtL S w l v) (hS : ∀ b, S b → b < w.heap.size) :
    Calls Tryz.prog 46 #[v, .int .i64 lim] w fun e w' => e = .returned (.bool (okB lim (tst nameB ltB) l)) ∧ Below w.heap.size w w' := by
  obtain ⟨oa, cap, rfl, hn, hc⟩ := h
  obtain ⟨n, en⟩ : ∃ n, l.length = n := ⟨_, rfl⟩
  rw [en] at hn
  rw [en]
  unfold maxLen at hn
  have HC : Hid _ := hc
  clear hc
  by_cases hl : n ≤ lim
  · have d0 : decide ((lim : Int) < (n : Int)) = false := by simp; omega
    go_enter Tryz.func46, Tryz.ntmps46
    go_wp2
    go_loopw [5] (fun i wr => ∃ q : Nat, q ≤ n ∧ i = .int .i64 q ∧ Hid (∀ j (hj : j < l.length), j < q → (tst nameB ltB) (prevO l j) l[j] = true) ∧ Hid (Below w.heap.size w wr)) (fun i _ => n - (intOf i).toNat)
    case atStart => exact ⟨0, Nat.zero_le _, rfl, fun _ _ h => by omega, Below.refl _ _⟩
    case round =>
      obtain ⟨q, hq, rfl, hall, hbel⟩ := hrel
      have hs := hbel.out.size
      by_cases hlt : q < n
      · rcases Nat.eq_zero_or_pos q with rfl | hpos
        · have _u := trivial
          obtain ⟨b, off, rfl, hbS, cc, hcell, hat⟩ := HC.out 0 (by omega)
          have hb := hS b hbS
          rw [width_str] at hcell
          have e0 : wr.cell? ⟨b, off, none⟩ = some (cc 0) := (hbel.out.cell (p := ⟨b, off, none⟩) hb).trans (by simpa using hcell 0 (by omega))
          rw [at_str] at hat
          rw [hat.1] at e0
          have ez0 := hat.2
          clear hcell hat
          obtain ⟨f, ef⟩ : ∃ f, l[0]'(by omega) = f := ⟨_, rfl⟩
          rw [ef] at e0 ez0
          have qe0 := fun d os => cell_regrown e0 d os
          cases c0 : nameB f
          · have hp : (tst nameB ltB) (prevO l (0)) (l[0]'(by omega)) = false := by
              rw [prev_zero l, ef]
              show (nameB f && true) = _
              rw [c0]
              rfl
            go_wp2
            refine wp_region_quiet_below (by kernel_rfl) (by kernel_rfl) ?_
            repeat (first | go_big_quiet_step (with_reducible exact nameC_q _ _ ez0 _ c0 _ _) | quiet_step (with_reducible exact nameC_q _ _ ez0 _ c0 _ _))
            refine wpQuiet_nil ?_
            intro _ hw'
            obtain ⟨⟨dq, osq⟩, hw''⟩ := hw'
            subst hw''
            go_wp2
            go_ret
            rw [ok_no (lim := lim) (T := (tst nameB ltB)) (k := 0) (by omega) hp]
            exact ⟨rfl, hbel.out.trans ((below_regrown _ dq osq).mono hs)⟩
          · have hp : (tst nameB ltB) (prevO l (0)) (l[0]'(by omega)) = true := by
              rw [prev_zero l, ef]
              show (nameB f && true) = _
              rw [c0]
              rfl
            go_wp2
            refine wp_region_quiet_below (by kernel_rfl) (by kernel_rfl) ?_
            repeat (first | go_big_quiet_step (with_reducible exact nameC_q _ _ ez0 _ c0 _ _) | quiet_step (with_reducible exact nameC_q _ _ ez0 _ c0 _ _))
            refine wpQuiet_nil ?_
            intro _ hw'
            obtain ⟨⟨dq, osq⟩, hw''⟩ := hw'
            subst hw''
            go_wp2
            go_roundw
            case rel => exact ⟨0 + 1, by omega, by go_num, fun j hj hjk => by
              by_cases e : j = 0
              · subst e; exact hp
              · exact hall.out j hj (by omega), hbel.out.trans ((below_regrown _ dq osq).mono hs)⟩
            case measure => simp [intOf]; omega
        · obtain ⟨m, rfl⟩ : ∃ m, q = m + 1 := ⟨q - 1, by omega⟩
          obtain ⟨b, off, rfl, hbS, cc, hcell, hat⟩ := HC.out (m + 1) (by omega)
          have hb := hS b hbS
          rw [width_str] at hcell
          have e0 : wr.cell? ⟨b, off + (m + 1), none⟩ = some (cc 0) := (hbel.out.cell (p := ⟨b, off + (m + 1), none⟩) hb).trans (by simpa using hcell 0 (by omega))
          rw [at_str] at hat
          rw [hat.1] at e0
          have ez0 := hat.2
          clear hcell hat
          obtain ⟨f, ef⟩ : ∃ f, l[(m + 1)]'(by omega) = f := ⟨_, rfl⟩
          rw [ef] at e0 ez0
          have qe0 := fun d os => cell_regrown e0 d os
          obtain ⟨b', off', e', _, dd, hcell, hat⟩ := HC.out m (by omega)
          cases e'
          rw [width_str] at hcell
          have m0 : wr.cell? ⟨b, off + m, none⟩ = some (dd 0) := (hbel.out.cell (p := ⟨b, off + m, none⟩) hb).trans (by simpa using hcell 0 (by omega))
          rw [at_str] at hat
          rw [hat.1] at m0
          have mz0 := hat.2
          clear hcell hat
          obtain ⟨g, eg⟩ : ∃ f, l[m]'(by omega) = f := ⟨_, rfl⟩
          rw [eg] at m0 mz0
          have qm0 := fun d os => cell_regrown m0 d os
          have gt0 : decide ((0 : Int) < ((m : Int) + 1)) = true := by rw [decide_eq_true_eq]; omega
          cases c0 : nameB f
          · have hp : (tst nameB ltB) (prevO l ((m + 1))) (l[(m + 1)]'(by omega)) = false := by
              rw [prev_succ l m (by omega), ef, eg]
              show (nameB f && ltB g f) = _
              rw [c0]
              rfl
            go_wp2
            refine wp_region_quiet_below (by kernel_rfl) (by kernel_rfl) ?_
            repeat (first | go_big_quiet_step (with_reducible exact nameC_q _ _ ez0 _ c0 _ _) | quiet_step (with_reducible exact nameC_q _ _ ez0 _ c0 _ _))
            refine wpQuiet_nil ?_
            intro _ hw'
            obtain ⟨⟨dq, osq⟩, hw''⟩ := hw'
            subst hw''
            go_wp2
            go_ret
            rw [ok_no (lim := lim) (T := (tst nameB ltB)) (k := (m + 1)) (by omega) hp]
            exact ⟨rfl, hbel.out.trans ((below_regrown _ dq osq).mono hs)⟩
          · cases c1 : Op.bytesLess g.toList f.toList
            · have hp : (tst nameB ltB) (prevO l ((m + 1))) (l[(m + 1)]'(by omega)) = false := by
                rw [prev_succ l m (by omega), ef, eg]
                show (nameB f && ltB g f) = _
                rw [c0, show ltB g f = false from c1]
                rfl
              go_wp2
              refine wp_region_quiet_below (by kernel_rfl) (by kernel_rfl) ?_
              repeat (first | go_big_quiet_step (with_reducible exact nameC_q _ _ ez0 _ c0 _ _) | quiet_step (with_reducible exact nameC_q _ _ ez0 _ c0 _ _))
              refine wpQuiet_nil ?_
              intro _ hw'
              obtain ⟨⟨dq, osq⟩, hw''⟩ := hw'
              subst hw''
              go_wp2
              go_ret
              rw [ok_no (lim := lim) (T := (tst nameB ltB)) (k := (m + 1)) (by omega) hp]
              exact ⟨rfl, hbel.out.trans ((below_regrown _ dq osq).mono hs)⟩
            · have hp : (tst nameB ltB) (prevO l ((m + 1))) (l[(m + 1)]'(by omega)) = true := by
                rw [prev_succ l m (by omega), ef, eg]
                show (nameB f && ltB g f) = _
                rw [c0, show ltB g f = true from c1]
                rfl
              go_wp2
              refine wp_region_quiet_below (by kernel_rfl) (by kernel_rfl) ?_
              repeat (first | go_big_quiet_step (with_reducible exact nameC_q _ _ ez0 _ c0 _ _) | quiet_step (with_reducible exact nameC_q _ _ ez0 _ c0 _ _))
              refine wpQuiet_nil ?_
              intro _ hw'
              obtain ⟨⟨dq, osq⟩, hw''⟩ := hw'
              subst hw''
              go_wp2
              go_roundw
              case rel => exact ⟨(m + 1) + 1, by omega, by go_num, fun j hj hjk => by
                by_cases e : j = (m + 1)
                · subst e; exact hp
                · exact hall.out j hj (by omega), hbel.out.trans ((below_regrown _ dq osq).mono hs)⟩
              case measure => simp [intOf]; omega
      · have hqn : q = n := by omega
        subst hqn
        go_wp2
        go_ret
        rw [ok_yes (lim := lim) (T := (tst nameB ltB)) (by omega) (fun i hi => hall.out i hi (by omega))]
        exact ⟨rfl, hbel.out⟩
  · have d0 : decide ((lim : Int) < (n : Int)) = true := by simp; omega
    go_enter Tryz.func46, Tryz.ntmps46
    go_wp2
    go_ret
    rw [ok_long (lim := lim) (T := (tst nameB ltB)) (by omega)]
    exact ⟨rfl, Below.refl _ _⟩

/-- One use that is as it is to be in a want of a kind. -/
def useP (kd : Int) (u : DClaimUse) : Bool := nameB u.1 && inB u.2.1 1 3 && (if u.2.1 = 3 then decide (u.2.2 = 0) else decide (kd = 1) && inB u.2.2 1 1000)
/-- Ahead by name. -/
def useR (p u : DClaimUse) : Bool := ltB p.1 u.1
section
variable {kd : Int} {f : DClaimUse}
theorem use_0 (h : nameB f.1 = false) : useP kd f = false := by simp [useP, h]
theorem use_2 (h : inB f.2.1 1 3 = false) : useP kd f = false := by simp [useP, h]
theorem use_34 (h0 : nameB f.1 = true) (h2 : inB f.2.1 1 3 = true) (h3 : f.2.1 = 3) (h4 : f.2.2 = 0) : useP kd f = true := by
  unfold useP; rw [h0, h2, if_pos h3, decide_eq_true h4]; rfl
theorem use_3n (h3 : f.2.1 = 3) (h4 : ¬ f.2.2 = 0) : useP kd f = false := by
  unfold useP; rw [if_pos h3, decide_eq_false h4, Bool.and_false]
theorem use_5n (h3 : ¬ f.2.1 = 3) (h5 : ¬ kd = 1) : useP kd f = false := by
  unfold useP; rw [if_neg h3, decide_eq_false h5, Bool.false_and, Bool.and_false]
theorem use_56 (h0 : nameB f.1 = true) (h2 : inB f.2.1 1 3 = true) (h3 : ¬ f.2.1 = 3) (h5 : kd = 1) (h6 : inB f.2.2 1 1000 = true) : useP kd f = true := by
  unfold useP; rw [h0, h2, if_neg h3, decide_eq_true h5, h6]; rfl
theorem use_6n (h3 : ¬ f.2.1 = 3) (h6 : inB f.2.2 1 1000 = false) : useP kd f = false := by
  unfold useP; rw [if_neg h3, h6, Bool.and_false, Bool.and_false]
end

set_option maxRecDepth 100000 in
set_option maxHeartbeats 32000000 in
theorem usesC_any (S : Nat → Prop) (nu kd : Int) (v2 v3 v4 v5 : Value) (l : List DClaimUse) (w : World) (h : AtL S w l v3) (hS : ∀ b, S b → b < w.heap.size) :
    Calls Tryz.prog 45 #[.agg #[.int .i64 nu, .int .i64 kd, v2, v3, v4, v5]] w fun e w' => e = .returned (.bool (okB 8 (tst (useP kd) useR) l)) ∧ Below w.heap.size w w' := by
  obtain ⟨oa, cap, rfl, hn, hc⟩ := h
  obtain ⟨n, en⟩ : ∃ n, l.length = n := ⟨_, rfl⟩
  rw [en] at hn
  rw [en]
  unfold maxLen at hn
  have HC : Hid _ := hc
  clear hc
  by_cases hl : n ≤ 8
  · have d0 : decide ((8 : Int) < (n : Int)) = false := by simp; omega
    go_enter Tryz.func45, Tryz.ntmps45
    go_wp2
    go_loopw [3] (fun i wr => ∃ q : Nat, q ≤ n ∧ i = .int .i64 q ∧ Hid (∀ j (hj : j < l.length), j < q → (tst (useP kd) useR) (prevO l j) l[j] = true) ∧ Hid (Below (w.heap.size + 1) (w.alloc (.cells #[.int .i64 nu, .int .i64 kd, v2, .slice oa n cap, v4, v5] 44)) wr)) (fun i _ => n - (intOf i).toNat)
    case atStart => exact ⟨0, Nat.zero_le _, rfl, fun _ _ h => by omega, Below.refl _ _⟩
    case round =>
      obtain ⟨q, hq, rfl, hall, hbel⟩ := hrel
      have hbw := below_end hbel.out
      have hsz : w.heap.size + 1 ≤ wr.heap.size := by have := hbel.out.size; simpa using this
      have x0 := box_at _ _ hbel.out 0 _ rfl
      have x1 := box_at _ _ hbel.out 1 _ rfl
      have x2 := box_at _ _ hbel.out 2 _ rfl
      have x3 := box_at _ _ hbel.out 3 _ rfl
      have x4 := box_at _ _ hbel.out 4 _ rfl
      have x5 := box_at _ _ hbel.out 5 _ rfl
      simp only [List.getElem_toArray, List.getElem_cons_zero, List.getElem_cons_succ] at x0 x1 x2 x3 x4 x5
      by_cases hlt : q < n
      · rcases Nat.eq_zero_or_pos q with rfl | hpos
        · have _u := trivial
          obtain ⟨b, off, rfl, hbS, cc, hcell, hat⟩ := HC.out 0 (by omega)
          have hb := hS b hbS
          rw [width_DClaimUse] at hcell
          have e0 : wr.cell? ⟨b, off, none⟩ = some (cc 0) := (hbw.cell (p := ⟨b, off, none⟩) hb).trans (by simpa using hcell 0 (by omega))
          have e1 : wr.cell? ⟨b, off + 1, none⟩ = some (cc 1) := (hbw.cell (p := ⟨b, off + 1, none⟩) hb).trans (by simpa using hcell 1 (by omega))
          have e2 : wr.cell? ⟨b, off + 2, none⟩ = some (cc 2) := (hbw.cell (p := ⟨b, off + 2, none⟩) hb).trans (by simpa using hcell 2 (by omega))
          rw [at_DClaimUse] at hat
          obtain ⟨⟨t0, ez0⟩, ⟨t1, _, _⟩, t2, _, _⟩ := hat
          rw [t0] at e0
          rw [t1] at e1
          rw [t2] at e2
          clear hcell t0 t1 t2
          obtain ⟨f, ef⟩ : ∃ f, l[0]'(by omega) = f := ⟨_, rfl⟩
          rw [ef] at e0 e1 e2 ez0
          have qe0 := fun d os => cell_regrown (cell_past e0 (by omega) (.cells #[.string f.1, .int .i64 f.2.1, .int .i64 f.2.2] 108)) d os
          have qe1 := fun d os => cell_regrown (cell_past e1 (by omega) (.cells #[.string f.1, .int .i64 f.2.1, .int .i64 f.2.2] 108)) d os
          have qe2 := fun d os => cell_regrown (cell_past e2 (by omega) (.cells #[.string f.1, .int .i64 f.2.1, .int .i64 f.2.2] 108)) d os
          have hW : Hid (Below (w.heap.size + 1) (w.alloc (.cells #[.int .i64 nu, .int .i64 kd, v2, .slice (some ⟨b, off, none⟩) n cap, v4, v5] 44)) (wr.alloc (.cells #[.string f.1, .int .i64 f.2.1, .int .i64 f.2.2] 108))) := hbel.out.alloc (by omega) _
          have qn0 := fun d os => cell_regrown (cell_row (heap_alloc_new wr (.cells #[.string f.1, .int .i64 f.2.1, .int .i64 f.2.2] 108)) 0 _ rfl).1 d os
          have qn1 := fun d os => cell_regrown (cell_row (heap_alloc_new wr (.cells #[.string f.1, .int .i64 f.2.1, .int .i64 f.2.2] 108)) 1 _ rfl).1 d os
          have qn2 := fun d os => cell_regrown (cell_row (heap_alloc_new wr (.cells #[.string f.1, .int .i64 f.2.1, .int .i64 f.2.2] 108)) 2 _ rfl).1 d os
          have qx0 := fun d os => cell_regrown (cell_past x0 (by omega) (.cells #[.string f.1, .int .i64 f.2.1, .int .i64 f.2.2] 108)) d os
          have qx1 := fun d os => cell_regrown (cell_past x1 (by omega) (.cells #[.string f.1, .int .i64 f.2.1, .int .i64 f.2.2] 108)) d os
          have qx2 := fun d os => cell_regrown (cell_past x2 (by omega) (.cells #[.string f.1, .int .i64 f.2.1, .int .i64 f.2.2] 108)) d os
          have qx3 := fun d os => cell_regrown (cell_past x3 (by omega) (.cells #[.string f.1, .int .i64 f.2.1, .int .i64 f.2.2] 108)) d os
          have qx4 := fun d os => cell_regrown (cell_past x4 (by omega) (.cells #[.string f.1, .int .i64 f.2.1, .int .i64 f.2.2] 108)) d os
          have qx5 := fun d os => cell_regrown (cell_past x5 (by omega) (.cells #[.string f.1, .int .i64 f.2.1, .int .i64 f.2.2] 108)) d os
          clear hbw
          cases c0 : nameB f.1
          · have hp : (tst (useP kd) useR) (prevO l (0)) (l[0]'(by omega)) = false := by
              rw [prev_zero l, ef]
              show (useP kd f && true) = _
              rw [use_0 c0, Bool.false_and]
            have HP : Hid _ := hp
            clear hp
            go_wp2
            refine wp_region_quiet_below (by kernel_rfl) (by kernel_rfl) ?_
            repeat (first | go_big_quiet_step (first | (with_reducible exact nameC_q _ _ ez0 _ c0 _ _) | (with_reducible exact inC_q _ _ _ _ _ c2 _ _)) | quiet_step (first | (with_reducible exact nameC_q _ _ ez0 _ c0 _ _) | (with_reducible exact inC_q _ _ _ _ _ c2 _ _)))
            refine wpQuiet_nil ?_
            intro _ hw'
            obtain ⟨⟨dq, osq⟩, hw''⟩ := hw'
            subst hw''
            go_wp2
            go_ret
            rw [ok_no (lim := 8) (T := (tst (useP kd) useR)) (k := 0) (by omega) HP.out]
            exact ⟨rfl, below_end (below_of hW.out (below_regrown _ dq osq))⟩
          · cases c2 : inB f.2.1 1 3
            · have hp : (tst (useP kd) useR) (prevO l (0)) (l[0]'(by omega)) = false := by
                rw [prev_zero l, ef]
                show (useP kd f && true) = _
                rw [use_2 c2, Bool.false_and]
              have HP : Hid _ := hp
              clear hp
              go_wp2
              refine wp_region_quiet_below (by kernel_rfl) (by kernel_rfl) ?_
              repeat (first | go_big_quiet_step (first | (with_reducible exact nameC_q _ _ ez0 _ c0 _ _) | (with_reducible exact inC_q _ _ _ _ _ c2 _ _)) | quiet_step (first | (with_reducible exact nameC_q _ _ ez0 _ c0 _ _) | (with_reducible exact inC_q _ _ _ _ _ c2 _ _)))
              refine wpQuiet_nil ?_
              intro _ hw'
              obtain ⟨⟨dq, osq⟩, hw''⟩ := hw'
              subst hw''
              go_wp2
              go_ret
              rw [ok_no (lim := 8) (T := (tst (useP kd) useR)) (k := 0) (by omega) HP.out]
              exact ⟨rfl, below_end (below_of hW.out (below_regrown _ dq osq))⟩
            · by_cases c3 : f.2.1 = 3
              · have g3 : (f.2.1 == 3) = true := by simpa using c3
                have g3n : (f.2.1 != 3) = false := by simp [c3]
                by_cases c4 : f.2.2 = 0
                · have g4 : (f.2.2 == 0) = true := by simpa using c4
                  have g4n : (f.2.2 != 0) = false := by simp [c4]
                  have C3 : Hid _ := c3
                  have C4 : Hid _ := c4
                  clear c3 c4
                  have hp : (tst (useP kd) useR) (prevO l (0)) (l[0]'(by omega)) = true := by
                    rw [prev_zero l, ef]
                    show (useP kd f && true) = _
                    rw [use_34 c0 c2 C3.out C4.out]
                    rfl
                  have HP : Hid _ := hp
                  clear hp
                  go_wp2
                  refine wp_region_quiet_below (by kernel_rfl) (by kernel_rfl) ?_
                  repeat (first | go_big_quiet_step (first | (with_reducible exact nameC_q _ _ ez0 _ c0 _ _) | (with_reducible exact inC_q _ _ _ _ _ c2 _ _)) | quiet_step (first | (with_reducible exact nameC_q _ _ ez0 _ c0 _ _) | (with_reducible exact inC_q _ _ _ _ _ c2 _ _)))
                  refine wpQuiet_nil ?_
                  intro _ hw'
                  obtain ⟨⟨dq, osq⟩, hw''⟩ := hw'
                  subst hw''
                  go_wp2
                  go_roundw
                  case rel => exact ⟨0 + 1, by omega, by go_num, fun j hj hjk => by
                    by_cases e : j = 0
                    · subst e; exact HP.out
                    · exact hall.out j hj (by omega), below_of hW.out (below_regrown _ dq osq)⟩
                  case measure => simp [intOf]; omega
                · have g4 : (f.2.2 == 0) = false := by simpa using c4
                  have g4n : (f.2.2 != 0) = true := by simpa using c4
                  have C3 : Hid _ := c3
                  have C4 : Hid _ := c4
                  clear c3 c4
                  have hp : (tst (useP kd) useR) (prevO l (0)) (l[0]'(by omega)) = false := by
                    rw [prev_zero l, ef]
                    show (useP kd f && true) = _
                    rw [use_3n C3.out C4.out, Bool.false_and]
                  have HP : Hid _ := hp
                  clear hp
                  go_wp2
                  refine wp_region_quiet_below (by kernel_rfl) (by kernel_rfl) ?_
                  repeat (first | go_big_quiet_step (first | (with_reducible exact nameC_q _ _ ez0 _ c0 _ _) | (with_reducible exact inC_q _ _ _ _ _ c2 _ _)) | quiet_step (first | (with_reducible exact nameC_q _ _ ez0 _ c0 _ _) | (with_reducible exact inC_q _ _ _ _ _ c2 _ _)))
                  refine wpQuiet_nil ?_
                  intro _ hw'
                  obtain ⟨⟨dq, osq⟩, hw''⟩ := hw'
                  subst hw''
                  go_wp2
                  go_ret
                  rw [ok_no (lim := 8) (T := (tst (useP kd) useR)) (k := 0) (by omega) HP.out]
                  exact ⟨rfl, below_end (below_of hW.out (below_regrown _ dq osq))⟩
              · have g3 : (f.2.1 == 3) = false := by simpa using c3
                have g3n : (f.2.1 != 3) = true := by simpa using c3
                by_cases c5 : kd = 1
                · have g5 : (kd == 1) = true := by simpa using c5
                  have g5n : (kd != 1) = false := by simp [c5]
                  have C3 : Hid _ := c3
                  have C5 : Hid _ := c5
                  clear c3 c5
                  cases c6 : inB f.2.2 1 1000
                  · have hp : (tst (useP kd) useR) (prevO l (0)) (l[0]'(by omega)) = false := by
                      rw [prev_zero l, ef]
                      show (useP kd f && true) = _
                      rw [use_6n C3.out c6, Bool.false_and]
                    have HP : Hid _ := hp
                    clear hp
                    go_wp2
                    refine wp_region_quiet_below (by kernel_rfl) (by kernel_rfl) ?_
                    repeat (first | go_big_quiet_step (first | (with_reducible exact nameC_q _ _ ez0 _ c0 _ _) | (with_reducible exact inC_q _ _ _ _ _ c2 _ _)) | quiet_step (first | (with_reducible exact nameC_q _ _ ez0 _ c0 _ _) | (with_reducible exact inC_q _ _ _ _ _ c2 _ _)))
                    refine wpQuiet_nil ?_
                    intro _ hw'
                    obtain ⟨⟨dq, osq⟩, hw''⟩ := hw'
                    subst hw''
                    go_wp2_with (go_at_call 44; refine (inC_any _ _ _ _).mono ?_; rintro e w1 ⟨rfl, rfl⟩; rw [c6])
                    go_ret
                    rw [ok_no (lim := 8) (T := (tst (useP kd) useR)) (k := 0) (by omega) HP.out]
                    exact ⟨rfl, below_end (below_of hW.out (below_regrown _ dq osq))⟩
                  · have hp : (tst (useP kd) useR) (prevO l (0)) (l[0]'(by omega)) = true := by
                      rw [prev_zero l, ef]
                      show (useP kd f && true) = _
                      rw [use_56 c0 c2 C3.out C5.out c6]
                      rfl
                    have HP : Hid _ := hp
                    clear hp
                    go_wp2
                    refine wp_region_quiet_below (by kernel_rfl) (by kernel_rfl) ?_
                    repeat (first | go_big_quiet_step (first | (with_reducible exact nameC_q _ _ ez0 _ c0 _ _) | (with_reducible exact inC_q _ _ _ _ _ c2 _ _)) | quiet_step (first | (with_reducible exact nameC_q _ _ ez0 _ c0 _ _) | (with_reducible exact inC_q _ _ _ _ _ c2 _ _)))
                    refine wpQuiet_nil ?_
                    intro _ hw'
                    obtain ⟨⟨dq, osq⟩, hw''⟩ := hw'
                    subst hw''
                    go_wp2_with (go_at_call 44; refine (inC_any _ _ _ _).mono ?_; rintro e w1 ⟨rfl, rfl⟩; rw [c6])
                    go_roundw
                    case rel => exact ⟨0 + 1, by omega, by go_num, fun j hj hjk => by
                      by_cases e : j = 0
                      · subst e; exact HP.out
                      · exact hall.out j hj (by omega), below_of hW.out (below_regrown _ dq osq)⟩
                    case measure => simp [intOf]; omega
                · have g5 : (kd == 1) = false := by simpa using c5
                  have g5n : (kd != 1) = true := by simpa using c5
                  have C3 : Hid _ := c3
                  have C5 : Hid _ := c5
                  clear c3 c5
                  have hp : (tst (useP kd) useR) (prevO l (0)) (l[0]'(by omega)) = false := by
                    rw [prev_zero l, ef]
                    show (useP kd f && true) = _
                    rw [use_5n C3.out C5.out, Bool.false_and]
                  have HP : Hid _ := hp
                  clear hp
                  go_wp2
                  refine wp_region_quiet_below (by kernel_rfl) (by kernel_rfl) ?_
                  repeat (first | go_big_quiet_step (first | (with_reducible exact nameC_q _ _ ez0 _ c0 _ _) | (with_reducible exact inC_q _ _ _ _ _ c2 _ _)) | quiet_step (first | (with_reducible exact nameC_q _ _ ez0 _ c0 _ _) | (with_reducible exact inC_q _ _ _ _ _ c2 _ _)))
                  refine wpQuiet_nil ?_
                  intro _ hw'
                  obtain ⟨⟨dq, osq⟩, hw''⟩ := hw'
                  subst hw''
                  go_wp2
                  go_ret
                  rw [ok_no (lim := 8) (T := (tst (useP kd) useR)) (k := 0) (by omega) HP.out]
                  exact ⟨rfl, below_end (below_of hW.out (below_regrown _ dq osq))⟩
        · obtain ⟨m, rfl⟩ : ∃ m, q = m + 1 := ⟨q - 1, by omega⟩
          obtain ⟨b, off, rfl, hbS, cc, hcell, hat⟩ := HC.out (m + 1) (by omega)
          have hb := hS b hbS
          rw [width_DClaimUse] at hcell
          have e0 : wr.cell? ⟨b, off + (m + 1) * 3, none⟩ = some (cc 0) := (hbw.cell (p := ⟨b, off + (m + 1) * 3, none⟩) hb).trans (by simpa using hcell 0 (by omega))
          have e1 : wr.cell? ⟨b, off + (m + 1) * 3 + 1, none⟩ = some (cc 1) := (hbw.cell (p := ⟨b, off + (m + 1) * 3 + 1, none⟩) hb).trans (by simpa using hcell 1 (by omega))
          have e2 : wr.cell? ⟨b, off + (m + 1) * 3 + 2, none⟩ = some (cc 2) := (hbw.cell (p := ⟨b, off + (m + 1) * 3 + 2, none⟩) hb).trans (by simpa using hcell 2 (by omega))
          rw [at_DClaimUse] at hat
          obtain ⟨⟨t0, ez0⟩, ⟨t1, _, _⟩, t2, _, _⟩ := hat
          rw [t0] at e0
          rw [t1] at e1
          rw [t2] at e2
          clear hcell t0 t1 t2
          obtain ⟨f, ef⟩ : ∃ f, l[(m + 1)]'(by omega) = f := ⟨_, rfl⟩
          rw [ef] at e0 e1 e2 ez0
          have qe0 := fun d os => cell_regrown (cell_past e0 (by omega) (.cells #[.string f.1, .int .i64 f.2.1, .int .i64 f.2.2] 108)) d os
          have qe1 := fun d os => cell_regrown (cell_past e1 (by omega) (.cells #[.string f.1, .int .i64 f.2.1, .int .i64 f.2.2] 108)) d os
          have qe2 := fun d os => cell_regrown (cell_past e2 (by omega) (.cells #[.string f.1, .int .i64 f.2.1, .int .i64 f.2.2] 108)) d os
          obtain ⟨b', off', e', _, dd, hcell, hat⟩ := HC.out m (by omega)
          cases e'
          rw [width_DClaimUse] at hcell
          have m0 : wr.cell? ⟨b, off + m * 3, none⟩ = some (dd 0) := (hbw.cell (p := ⟨b, off + m * 3, none⟩) hb).trans (by simpa using hcell 0 (by omega))
          have m1 : wr.cell? ⟨b, off + m * 3 + 1, none⟩ = some (dd 1) := (hbw.cell (p := ⟨b, off + m * 3 + 1, none⟩) hb).trans (by simpa using hcell 1 (by omega))
          have m2 : wr.cell? ⟨b, off + m * 3 + 2, none⟩ = some (dd 2) := (hbw.cell (p := ⟨b, off + m * 3 + 2, none⟩) hb).trans (by simpa using hcell 2 (by omega))
          rw [at_DClaimUse] at hat
          obtain ⟨⟨t0, mz0⟩, ⟨t1, _, _⟩, t2, _, _⟩ := hat
          rw [t0] at m0
          rw [t1] at m1
          rw [t2] at m2
          clear hcell t0 t1 t2
          obtain ⟨g, eg⟩ : ∃ f, l[m]'(by omega) = f := ⟨_, rfl⟩
          rw [eg] at m0 m1 m2 mz0
          have qm0 := fun d os => cell_regrown (cell_past m0 (by omega) (.cells #[.string f.1, .int .i64 f.2.1, .int .i64 f.2.2] 108)) d os
          have qm1 := fun d os => cell_regrown (cell_past m1 (by omega) (.cells #[.string f.1, .int .i64 f.2.1, .int .i64 f.2.2] 108)) d os
          have qm2 := fun d os => cell_regrown (cell_past m2 (by omega) (.cells #[.string f.1, .int .i64 f.2.1, .int .i64 f.2.2] 108)) d os
          have hW : Hid (Below (w.heap.size + 1) (w.alloc (.cells #[.int .i64 nu, .int .i64 kd, v2, .slice (some ⟨b, off, none⟩) n cap, v4, v5] 44)) (wr.alloc (.cells #[.string f.1, .int .i64 f.2.1, .int .i64 f.2.2] 108))) := hbel.out.alloc (by omega) _
          have qn0 := fun d os => cell_regrown (cell_row (heap_alloc_new wr (.cells #[.string f.1, .int .i64 f.2.1, .int .i64 f.2.2] 108)) 0 _ rfl).1 d os
          have qn1 := fun d os => cell_regrown (cell_row (heap_alloc_new wr (.cells #[.string f.1, .int .i64 f.2.1, .int .i64 f.2.2] 108)) 1 _ rfl).1 d os
          have qn2 := fun d os => cell_regrown (cell_row (heap_alloc_new wr (.cells #[.string f.1, .int .i64 f.2.1, .int .i64 f.2.2] 108)) 2 _ rfl).1 d os
          have qx0 := fun d os => cell_regrown (cell_past x0 (by omega) (.cells #[.string f.1, .int .i64 f.2.1, .int .i64 f.2.2] 108)) d os
          have qx1 := fun d os => cell_regrown (cell_past x1 (by omega) (.cells #[.string f.1, .int .i64 f.2.1, .int .i64 f.2.2] 108)) d os
          have qx2 := fun d os => cell_regrown (cell_past x2 (by omega) (.cells #[.string f.1, .int .i64 f.2.1, .int .i64 f.2.2] 108)) d os
          have qx3 := fun d os => cell_regrown (cell_past x3 (by omega) (.cells #[.string f.1, .int .i64 f.2.1, .int .i64 f.2.2] 108)) d os
          have qx4 := fun d os => cell_regrown (cell_past x4 (by omega) (.cells #[.string f.1, .int .i64 f.2.1, .int .i64 f.2.2] 108)) d os
          have qx5 := fun d os => cell_regrown (cell_past x5 (by omega) (.cells #[.string f.1, .int .i64 f.2.1, .int .i64 f.2.2] 108)) d os
          clear hbw
          have gt0 : decide ((0 : Int) < ((m : Int) + 1)) = true := by rw [decide_eq_true_eq]; omega
          cases c0 : nameB f.1
          · have hp : (tst (useP kd) useR) (prevO l ((m + 1))) (l[(m + 1)]'(by omega)) = false := by
              rw [prev_succ l m (by omega), ef, eg]
              show (useP kd f && useR g f) = _
              rw [use_0 c0, Bool.false_and]
            have HP : Hid _ := hp
            clear hp
            go_wp2
            refine wp_region_quiet_below (by kernel_rfl) (by kernel_rfl) ?_
            repeat (first | go_big_quiet_step (first | (with_reducible exact nameC_q _ _ ez0 _ c0 _ _) | (with_reducible exact inC_q _ _ _ _ _ c2 _ _)) | quiet_step (first | (with_reducible exact nameC_q _ _ ez0 _ c0 _ _) | (with_reducible exact inC_q _ _ _ _ _ c2 _ _)))
            refine wpQuiet_nil ?_
            intro _ hw'
            obtain ⟨⟨dq, osq⟩, hw''⟩ := hw'
            subst hw''
            go_wp2
            go_ret
            rw [ok_no (lim := 8) (T := (tst (useP kd) useR)) (k := (m + 1)) (by omega) HP.out]
            exact ⟨rfl, below_end (below_of hW.out (below_regrown _ dq osq))⟩
          · cases c1 : Op.bytesLess g.1.toList f.1.toList
            · have hp : (tst (useP kd) useR) (prevO l ((m + 1))) (l[(m + 1)]'(by omega)) = false := by
                rw [prev_succ l m (by omega), ef, eg]
                show (useP kd f && useR g f) = _
                rw [show useR g f = false from c1, Bool.and_false]
              have HP : Hid _ := hp
              clear hp
              go_wp2
              refine wp_region_quiet_below (by kernel_rfl) (by kernel_rfl) ?_
              repeat (first | go_big_quiet_step (first | (with_reducible exact nameC_q _ _ ez0 _ c0 _ _) | (with_reducible exact inC_q _ _ _ _ _ c2 _ _)) | quiet_step (first | (with_reducible exact nameC_q _ _ ez0 _ c0 _ _) | (with_reducible exact inC_q _ _ _ _ _ c2 _ _)))
              refine wpQuiet_nil ?_
              intro _ hw'
              obtain ⟨⟨dq, osq⟩, hw''⟩ := hw'
              subst hw''
              go_wp2
              go_ret
              rw [ok_no (lim := 8) (T := (tst (useP kd) useR)) (k := (m + 1)) (by omega) HP.out]
              exact ⟨rfl, below_end (below_of hW.out (below_regrown _ dq osq))⟩
            · cases c2 : inB f.2.1 1 3
              · have hp : (tst (useP kd) useR) (prevO l ((m + 1))) (l[(m + 1)]'(by omega)) = false := by
                  rw [prev_succ l m (by omega), ef, eg]
                  show (useP kd f && useR g f) = _
                  rw [use_2 c2, Bool.false_and]
                have HP : Hid _ := hp
                clear hp
                go_wp2
                refine wp_region_quiet_below (by kernel_rfl) (by kernel_rfl) ?_
                repeat (first | go_big_quiet_step (first | (with_reducible exact nameC_q _ _ ez0 _ c0 _ _) | (with_reducible exact inC_q _ _ _ _ _ c2 _ _)) | quiet_step (first | (with_reducible exact nameC_q _ _ ez0 _ c0 _ _) | (with_reducible exact inC_q _ _ _ _ _ c2 _ _)))
                refine wpQuiet_nil ?_
                intro _ hw'
                obtain ⟨⟨dq, osq⟩, hw''⟩ := hw'
                subst hw''
                go_wp2
                go_ret
                rw [ok_no (lim := 8) (T := (tst (useP kd) useR)) (k := (m + 1)) (by omega) HP.out]
                exact ⟨rfl, below_end (below_of hW.out (below_regrown _ dq osq))⟩
              · by_cases c3 : f.2.1 = 3
                · have g3 : (f.2.1 == 3) = true := by simpa using c3
                  have g3n : (f.2.1 != 3) = false := by simp [c3]
                  by_cases c4 : f.2.2 = 0
                  · have g4 : (f.2.2 == 0) = true := by simpa using c4
                    have g4n : (f.2.2 != 0) = false := by simp [c4]
                    have C3 : Hid _ := c3
                    have C4 : Hid _ := c4
                    clear c3 c4
                    have hp : (tst (useP kd) useR) (prevO l ((m + 1))) (l[(m + 1)]'(by omega)) = true := by
                      rw [prev_succ l m (by omega), ef, eg]
                      show (useP kd f && useR g f) = _
                      rw [use_34 c0 c2 C3.out C4.out, show useR g f = true from c1]
                      rfl
                    have HP : Hid _ := hp
                    clear hp
                    go_wp2
                    refine wp_region_quiet_below (by kernel_rfl) (by kernel_rfl) ?_
                    repeat (first | go_big_quiet_step (first | (with_reducible exact nameC_q _ _ ez0 _ c0 _ _) | (with_reducible exact inC_q _ _ _ _ _ c2 _ _)) | quiet_step (first | (with_reducible exact nameC_q _ _ ez0 _ c0 _ _) | (with_reducible exact inC_q _ _ _ _ _ c2 _ _)))
                    refine wpQuiet_nil ?_
                    intro _ hw'
                    obtain ⟨⟨dq, osq⟩, hw''⟩ := hw'
                    subst hw''
                    go_wp2
                    go_roundw
                    case rel => exact ⟨(m + 1) + 1, by omega, by go_num, fun j hj hjk => by
                      by_cases e : j = (m + 1)
                      · subst e; exact HP.out
                      · exact hall.out j hj (by omega), below_of hW.out (below_regrown _ dq osq)⟩
                    case measure => simp [intOf]; omega
                  · have g4 : (f.2.2 == 0) = false := by simpa using c4
                    have g4n : (f.2.2 != 0) = true := by simpa using c4
                    have C3 : Hid _ := c3
                    have C4 : Hid _ := c4
                    clear c3 c4
                    have hp : (tst (useP kd) useR) (prevO l ((m + 1))) (l[(m + 1)]'(by omega)) = false := by
                      rw [prev_succ l m (by omega), ef, eg]
                      show (useP kd f && useR g f) = _
                      rw [use_3n C3.out C4.out, Bool.false_and]
                    have HP : Hid _ := hp
                    clear hp
                    go_wp2
                    refine wp_region_quiet_below (by kernel_rfl) (by kernel_rfl) ?_
                    repeat (first | go_big_quiet_step (first | (with_reducible exact nameC_q _ _ ez0 _ c0 _ _) | (with_reducible exact inC_q _ _ _ _ _ c2 _ _)) | quiet_step (first | (with_reducible exact nameC_q _ _ ez0 _ c0 _ _) | (with_reducible exact inC_q _ _ _ _ _ c2 _ _)))
                    refine wpQuiet_nil ?_
                    intro _ hw'
                    obtain ⟨⟨dq, osq⟩, hw''⟩ := hw'
                    subst hw''
                    go_wp2
                    go_ret
                    rw [ok_no (lim := 8) (T := (tst (useP kd) useR)) (k := (m + 1)) (by omega) HP.out]
                    exact ⟨rfl, below_end (below_of hW.out (below_regrown _ dq osq))⟩
                · have g3 : (f.2.1 == 3) = false := by simpa using c3
                  have g3n : (f.2.1 != 3) = true := by simpa using c3
                  by_cases c5 : kd = 1
                  · have g5 : (kd == 1) = true := by simpa using c5
                    have g5n : (kd != 1) = false := by simp [c5]
                    have C3 : Hid _ := c3
                    have C5 : Hid _ := c5
                    clear c3 c5
                    cases c6 : inB f.2.2 1 1000
                    · have hp : (tst (useP kd) useR) (prevO l ((m + 1))) (l[(m + 1)]'(by omega)) = false := by
                        rw [prev_succ l m (by omega), ef, eg]
                        show (useP kd f && useR g f) = _
                        rw [use_6n C3.out c6, Bool.false_and]
                      have HP : Hid _ := hp
                      clear hp
                      go_wp2
                      refine wp_region_quiet_below (by kernel_rfl) (by kernel_rfl) ?_
                      repeat (first | go_big_quiet_step (first | (with_reducible exact nameC_q _ _ ez0 _ c0 _ _) | (with_reducible exact inC_q _ _ _ _ _ c2 _ _)) | quiet_step (first | (with_reducible exact nameC_q _ _ ez0 _ c0 _ _) | (with_reducible exact inC_q _ _ _ _ _ c2 _ _)))
                      refine wpQuiet_nil ?_
                      intro _ hw'
                      obtain ⟨⟨dq, osq⟩, hw''⟩ := hw'
                      subst hw''
                      go_wp2_with (go_at_call 44; refine (inC_any _ _ _ _).mono ?_; rintro e w1 ⟨rfl, rfl⟩; rw [c6])
                      go_ret
                      rw [ok_no (lim := 8) (T := (tst (useP kd) useR)) (k := (m + 1)) (by omega) HP.out]
                      exact ⟨rfl, below_end (below_of hW.out (below_regrown _ dq osq))⟩
                    · have hp : (tst (useP kd) useR) (prevO l ((m + 1))) (l[(m + 1)]'(by omega)) = true := by
                        rw [prev_succ l m (by omega), ef, eg]
                        show (useP kd f && useR g f) = _
                        rw [use_56 c0 c2 C3.out C5.out c6, show useR g f = true from c1]
                        rfl
                      have HP : Hid _ := hp
                      clear hp
                      go_wp2
                      refine wp_region_quiet_below (by kernel_rfl) (by kernel_rfl) ?_
                      repeat (first | go_big_quiet_step (first | (with_reducible exact nameC_q _ _ ez0 _ c0 _ _) | (with_reducible exact inC_q _ _ _ _ _ c2 _ _)) | quiet_step (first | (with_reducible exact nameC_q _ _ ez0 _ c0 _ _) | (with_reducible exact inC_q _ _ _ _ _ c2 _ _)))
                      refine wpQuiet_nil ?_
                      intro _ hw'
                      obtain ⟨⟨dq, osq⟩, hw''⟩ := hw'
                      subst hw''
                      go_wp2_with (go_at_call 44; refine (inC_any _ _ _ _).mono ?_; rintro e w1 ⟨rfl, rfl⟩; rw [c6])
                      go_roundw
                      case rel => exact ⟨(m + 1) + 1, by omega, by go_num, fun j hj hjk => by
                        by_cases e : j = (m + 1)
                        · subst e; exact HP.out
                        · exact hall.out j hj (by omega), below_of hW.out (below_regrown _ dq osq)⟩
                      case measure => simp [intOf]; omega
                  · have g5 : (kd == 1) = false := by simpa using c5
                    have g5n : (kd != 1) = true := by simpa using c5
                    have C3 : Hid _ := c3
                    have C5 : Hid _ := c5
                    clear c3 c5
                    have hp : (tst (useP kd) useR) (prevO l ((m + 1))) (l[(m + 1)]'(by omega)) = false := by
                      rw [prev_succ l m (by omega), ef, eg]
                      show (useP kd f && useR g f) = _
                      rw [use_5n C3.out C5.out, Bool.false_and]
                    have HP : Hid _ := hp
                    clear hp
                    go_wp2
                    refine wp_region_quiet_below (by kernel_rfl) (by kernel_rfl) ?_
                    repeat (first | go_big_quiet_step (first | (with_reducible exact nameC_q _ _ ez0 _ c0 _ _) | (with_reducible exact inC_q _ _ _ _ _ c2 _ _)) | quiet_step (first | (with_reducible exact nameC_q _ _ ez0 _ c0 _ _) | (with_reducible exact inC_q _ _ _ _ _ c2 _ _)))
                    refine wpQuiet_nil ?_
                    intro _ hw'
                    obtain ⟨⟨dq, osq⟩, hw''⟩ := hw'
                    subst hw''
                    go_wp2
                    go_ret
                    rw [ok_no (lim := 8) (T := (tst (useP kd) useR)) (k := (m + 1)) (by omega) HP.out]
                    exact ⟨rfl, below_end (below_of hW.out (below_regrown _ dq osq))⟩
      · have hqn : q = n := by omega
        subst hqn
        go_wp2
        go_ret
        rw [ok_yes (lim := 8) (T := (tst (useP kd) useR)) (by omega) (fun i hi => hall.out i hi (by omega))]
        exact ⟨rfl, hbw⟩
  · have d0 : decide ((8 : Int) < (n : Int)) = true := by simp; omega
    go_enter Tryz.func45, Tryz.ntmps45
    go_wp2
    go_ret
    rw [ok_long (lim := 8) (T := (tst (useP kd) useR)) (by omega)]
    exact ⟨rfl, (Below.refl _ _).alloc (Nat.le_refl _) _⟩

end Go.Proofs.YtciembgenlcogaeGreat.C
