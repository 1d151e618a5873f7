import Derived.Test.YtaejlcanccfmmaaGreatDoorM1
import Derived.Test.YtaejlcanccfmmaaGreatDoorM2
import Derived.Laws.EntriesVeiled
namespace Go.Proofs.YtaejlcanccfmmaaGreatDoor
open Go.RowKit
set_option maxHeartbeats 400000 in
theorem inZ_any (n lo hi : Int) (w : World) : Calls Tryz.prog 43 #[.int .i64 n, .int .i64 lo, .int .i64 hi] w fun e w' => e = .returned (.bool (inB n lo hi)) ∧ w' = w := by
  by_cases h1 : lo ≤ n
  · by_cases h2 : n ≤ hi
    · have hw : inB n lo hi = true := by simp [inB, h1, h2]
      rw [hw]
      go_enter Tryz.func43, Tryz.ntmps43
      go_wp2
      go_ret
      exact ⟨rfl, rfl⟩
    · have hw : inB n lo hi = false := by simp [inB]; omega
      rw [hw]
      go_enter Tryz.func43, Tryz.ntmps43
      go_wp2
      go_ret
      exact ⟨rfl, rfl⟩
  · have hw : inB n lo hi = false := by simp [inB]; omega
    rw [hw]
    go_enter Tryz.func43, Tryz.ntmps43
    go_wp2
    go_ret
    exact ⟨rfl, rfl⟩
set_option maxRecDepth 100000 in
set_option maxHeartbeats 1000000 in
theorem nameZ_any (s : ByteArray) (w : World) (hs : s.size ≤ maxLen) : Calls Tryz.prog 29 #[.string s] w fun e w' => e = .returned (.bool (nameB s)) ∧ w' = w := by
  unfold maxLen at hs
  by_cases hl : 1 ≤ s.size ∧ s.size ≤ 8
  · have hin : inB (s.size : Int) 1 8 = true := by simp [inB]; omega
    go_enter Tryz.func29, Tryz.ntmps29
    go_wp2_with (go_at_call 43; refine (inZ_any _ _ _ _).mono ?_; rintro e w1 ⟨rfl, rfl⟩; rw [hin])
    go_loop [3] (fun i => ∃ k : Nat, k ≤ s.size ∧ i = .int .i64 k ∧ Hid (∀ j (hj : j < s.size), j < k → okn s[j].toNat = true)) (fun i => s.size - (intOf i).toNat)
    case atStart => exact ⟨0, Nat.zero_le _, rfl, fun _ _ h => by omega⟩
    case round =>
      obtain ⟨k, hk, rfl, hno⟩ := hrel
      by_cases hlt : k < s.size
      · have hb := s[k].toNat_lt
        have HN : Hid (okn s[k].toNat = false → nameB s = false) := fun h => name_bad hlt h
        rcases (show (s[k].toNat : Int) < 45 ∨ (s[k].toNat : Int) = 45 ∨ (45 < (s[k].toNat : Int) ∧ (s[k].toNat : Int) < 48) ∨ (48 ≤ (s[k].toNat : Int) ∧ (s[k].toNat : Int) ≤ 57) ∨ (57 < (s[k].toNat : Int) ∧ (s[k].toNat : Int) < 97) ∨ (97 ≤ (s[k].toNat : Int) ∧ (s[k].toNat : Int) ≤ 122) ∨ 122 < (s[k].toNat : Int) by omega) with h | h | ⟨h, h'⟩ | ⟨h, h'⟩ | ⟨h, h'⟩ | ⟨h, h'⟩ | h
        · have h45 : ((s[k].toNat : Int) == 45) = false := by simp; omega
          have HO : Hid (okn s[k].toNat = false) := by simp [Hid, okn]; omega
          go_wp2
          rw [HN.out HO.out]
          go_ret
          exact ⟨rfl, rfl⟩
        · have h45 : ((s[k].toNat : Int) == 45) = true := by rw [h]; rfl
          have HO : Hid (okn s[k].toNat = true) := by rw [h]; rfl
          have ha : (s[k].toNat : Int) ≤ 45 := by omega
          clear h
          go_wp2
          go_round
          case rel => exact ⟨k + 1, by omega, by go_num, fun j hj hjk => by
            by_cases e : j = k
            · subst e; exact HO.out
            · exact hno.out j hj (by omega)⟩
          case measure => simp [intOf]; omega
        · have h45 : ((s[k].toNat : Int) == 45) = false := by simp; omega
          have HO : Hid (okn s[k].toNat = false) := by simp [Hid, okn]; omega
          go_wp2
          rw [HN.out HO.out]
          go_ret
          exact ⟨rfl, rfl⟩
        · have h45 : ((s[k].toNat : Int) == 45) = false := by simp; omega
          have HO : Hid (okn s[k].toNat = true) := by simp [Hid, okn]; omega
          go_wp2
          go_round
          case rel => exact ⟨k + 1, by omega, by go_num, fun j hj hjk => by
            by_cases e : j = k
            · subst e; exact HO.out
            · exact hno.out j hj (by omega)⟩
          case measure => simp [intOf]; omega
        · have h45 : ((s[k].toNat : Int) == 45) = false := by simp; omega
          have HO : Hid (okn s[k].toNat = false) := by simp [Hid, okn]; omega
          have d57 : decide ((s[k].toNat : Int) ≤ 57) = false := by simp; omega
          go_wp2
          rw [HN.out HO.out]
          go_ret
          exact ⟨rfl, rfl⟩
        · have h45 : ((s[k].toNat : Int) == 45) = false := by simp; omega
          have HO : Hid (okn s[k].toNat = true) := by simp [Hid, okn]; omega
          go_wp2
          go_round
          case rel => exact ⟨k + 1, by omega, by go_num, fun j hj hjk => by
            by_cases e : j = k
            · subst e; exact HO.out
            · exact hno.out j hj (by omega)⟩
          case measure => simp [intOf]; omega
        · have h45 : ((s[k].toNat : Int) == 45) = false := by simp; omega
          have HO : Hid (okn s[k].toNat = false) := by simp [Hid, okn]; omega
          have d57 : decide ((s[k].toNat : Int) ≤ 57) = false := by simp; omega
          have d122 : decide ((s[k].toNat : Int) ≤ 122) = false := by simp; omega
          go_wp2
          rw [HN.out HO.out]
          go_ret
          exact ⟨rfl, rfl⟩
      · go_wp2
        go_ret
        have hkn : k = s.size := by omega
        subst hkn
        rw [name_all hl (fun j hj => hno.out j hj hj)]
        exact ⟨rfl, rfl⟩
  · have hin : inB (s.size : Int) 1 8 = false := by simp [inB]; omega
    rw [name_short hl]
    go_enter Tryz.func29, Tryz.ntmps29
    go_wp2_with (go_at_call 43; refine (inZ_any _ _ _ _).mono ?_; rintro e w1 ⟨rfl, rfl⟩; rw [hin])
    go_ret
    exact ⟨rfl, rfl⟩
set_option maxRecDepth 100000 in
set_option maxHeartbeats 8000000 in
theorem hasZ_any (S : Nat → Prop) (v : Value) (l : List ByteArray) (x : ByteArray) (w : World) (h : AtL S w l v) :
    Calls Tryz.prog 20 #[v, .string x] w fun e w' => e = .returned (.bool (hasB l x)) ∧ Below w.heap.size w w' := by
  obtain ⟨oa, cap, rfl, hn, hc⟩ := h
  obtain ⟨n, en⟩ : ∃ n, l.length = n := ⟨_, rfl⟩
  rw [en] at hn
  rw [en]
  unfold maxLen at hn
  have HC : Hid _ := hc
  clear hc
  go_enter Tryz.func20, Tryz.ntmps20
  go_wp2
  go_loop [5] (fun i => ∃ k : Nat, k ≤ n ∧ i = .int .i64 k ∧ Hid (∀ j (hj : j < l.length), j < k → (fun f => eqB f x) l[j] = false)) (fun i => n - (intOf i).toNat)
  case atStart => exact ⟨0, Nat.zero_le _, rfl, fun _ _ h => by omega⟩
  case round =>
    obtain ⟨k, hk, rfl, hno⟩ := hrel
    by_cases hlt : k < n
    · obtain ⟨b, off, rfl, hbS, cc, hcell, hat⟩ := HC.out k (by omega)
      rw [width_str] at hcell
      have e0 : w.cell? ⟨b, off + k, none⟩ = some (cc 0) := by simpa using hcell 0 (by omega)
      clear hcell
      rw [at_str] at hat
      rw [hat.1] at e0
      clear hat
      obtain ⟨f, ef⟩ : ∃ f, l[k]'(by omega) = f := ⟨_, rfl⟩
      rw [ef] at e0
      cases c0 : (f.toList == x.toList)
      · have hp : (fun f => eqB f x) (l[k]'(by omega)) = false := by rw [ef]; simp [eqB, c0]
        go_wp2
        go_round
        case rel => exact ⟨k + 1, by omega, by go_num, fun j hj hjk => by
          by_cases e : j = k
          · subst e; exact hp
          · exact hno.out j hj (by omega)⟩
        case measure => simp [intOf]; omega
      · have hp : (fun f => eqB f x) (l[k]'(by omega)) = true := by rw [ef]; simp [eqB, c0]
        go_wp2
        have hr : hasB l x = true := any_yes (p := fun f => eqB f x) (by omega) hp
        rw [hr]
        go_ret
        exact ⟨rfl, (Below.refl _ _)⟩
    · have hkn : k = n := by omega
      subst hkn
      go_wp2
      go_ret
      have hr : hasB l x = false := any_no (p := fun f => eqB f x) (fun j hj => hno.out j hj (by omega))
      rw [hr]
      exact ⟨rfl, (Below.refl _ _)⟩
open Go.Sort in
theorem nameZ_q (s : ByteArray) (wr : World) (hs : s.size ≤ maxLen) (r : Bool) (hr : nameB s = r) (d : Nat) (os : Array Obj) : Calls Tryz.prog 29 #[.string s] (grow (redrawn wr d) os) fun e w'' => e = .returned (.bool r) ∧ ∃ p : Regrown, w'' = grow (redrawn wr p.d) p.os :=
  Calls.regrown_of ((nameZ_any s _ hs).mono fun _ _ ⟨he, hw⟩ => ⟨by subst hr; exact he, by subst hw; exact Below.refl _ _⟩)
def shareB (a b : List ByteArray) : Bool := a.any fun x => hasB b x
set_option maxRecDepth 100000 in
set_option maxHeartbeats 8000000 in
theorem shareZ_any (S : Nat → Prop) (va vb : Value) (a b : List ByteArray) (w : World) (ha : AtL S w a va) (hb : AtL S w b vb) (hS : ∀ b, S b → b < w.heap.size) :
    Calls Tryz.prog 36 #[va, vb] w fun e w' => e = .returned (.bool (shareB a b)) ∧ Below w.heap.size w w' := by
  obtain ⟨oa, cap, rfl, hn, hc⟩ := ha
  obtain ⟨n, en⟩ : ∃ n, a.length = n := ⟨_, rfl⟩
  rw [en] at hn
  rw [en]
  unfold maxLen at hn
  have HC : Hid _ := hc
  have HB : Hid (AtL S w b vb) := hb
  clear hc hb
  go_enter Tryz.func36, Tryz.ntmps36
  go_wp2
  go_loopw [5] (fun i wr => ∃ k : Nat, k ≤ n ∧ i = .int .i64 k ∧ Hid (∀ j (hj : j < a.length), j < k → hasB b a[j] = false) ∧ Hid (Below w.heap.size w wr)) (fun i _ => n - (intOf i).toNat)
  case atStart => exact ⟨0, Nat.zero_le _, rfl, fun _ _ h => by omega, Below.refl _ _⟩
  case round =>
    obtain ⟨k, hk, rfl, hno, hbel⟩ := hrel
    have hs := hbel.out.size
    by_cases hlt : k < n
    · obtain ⟨q, off, rfl, hqS, cc, hcell, hat⟩ := HC.out k (by omega)
      have hq := hS q hqS
      rw [width_str] at hcell
      have e0 : wr.cell? ⟨q, off + k, none⟩ = some (cc 0) := (hbel.out.cell (p := ⟨q, off + k, none⟩) hq).trans (by have hq := hcell 0 (by omega); first | exact hq | simpa using hq)
      rw [at_str] at hat
      rw [hat.1] at e0
      clear hcell hat
      obtain ⟨f, ef⟩ : ∃ f, a[k]'(by omega) = f := ⟨_, rfl⟩
      rw [ef] at e0
      cases hy : hasB b f
      all_goals
        go_wp2_with (go_at_call 20; refine (hasZ_any S vb b f _ (HB.out.same (Same.of_below hbel.out hS))).mono ?_; rintro e w1 ⟨rfl, hb1⟩; rw [hy])
      · go_roundw
        case rel => exact ⟨k + 1, by omega, by go_num, fun j hj hjk => by
          by_cases e : j = k
          · subst e; rw [ef]; exact hy
          · exact hno.out j hj (by omega), hbel.out.trans (hb1.mono hs)⟩
        case measure => simp [intOf]; omega
      · rw [show shareB a b = true from any_yes (k := k) (by omega) (by rw [ef]; exact hy)]
        go_ret
        exact ⟨rfl, hbel.out.trans (hb1.mono hs)⟩
    · go_wp2
      rw [show shareB a b = false from any_no (fun j hj => hno.out j hj (by omega))]
      go_ret
      exact ⟨rfl, hbel.out⟩
set_option maxRecDepth 100000 in
set_option maxHeartbeats 8000000 in
theorem thingsZ_any (S : Nat → Prop) (v : Value) (l : List ByteArray) (w : World) (h : AtL S w l v) (hS : ∀ b, S b → b < w.heap.size) :
    Calls Tryz.prog 35 #[v] w fun e w' => e = .returned (.bool (okB 8 (tst nameB ltB) l)) ∧ Below w.heap.size w w' := by
  obtain ⟨oa, cap, rfl, hn, hc⟩ := h
  obtain ⟨n, en⟩ : ∃ n, l.length = n := ⟨_, rfl⟩
  rw [en] at hn
  rw [en]
  unfold maxLen at hn
  have HC : Hid _ := hc
  clear hc
  by_cases hl : n ≤ 8
  · have d0 : decide ((8 : Int) < (n : Int)) = false := by simp; omega
    go_enter Tryz.func35, Tryz.ntmps35
    go_wp2
    go_loopw [3] (fun i wr => ∃ q : Nat, q ≤ n ∧ i = .int .i64 q ∧ Hid (∀ j (hj : j < l.length), j < q → (tst nameB ltB) (prevO l j) l[j] = true) ∧ Hid (Below w.heap.size w wr)) (fun i _ => n - (intOf i).toNat)
    case atStart => exact ⟨0, Nat.zero_le _, rfl, fun _ _ h => by omega, Below.refl _ _⟩
    case round =>
      obtain ⟨q, hq, rfl, hall, hbel⟩ := hrel
      have hs := hbel.out.size
      by_cases hlt : q < n
      · rcases Nat.eq_zero_or_pos q with rfl | hpos
        · have _u := trivial
          obtain ⟨b, off, rfl, hbS, cc, hcell, hat⟩ := HC.out 0 (by omega)
          have hb := hS b hbS
          rw [width_str] at hcell
          have e0 : wr.cell? ⟨b, off, none⟩ = some (cc 0) := (hbel.out.cell (p := ⟨b, off, none⟩) hb).trans (by have hq := hcell 0 (by omega); first | exact hq | simpa using hq)
          rw [at_str] at hat
          rw [hat.1] at e0
          have ez0 := hat.2
          clear hcell hat
          obtain ⟨f, ef⟩ : ∃ f, l[0]'(by omega) = f := ⟨_, rfl⟩
          rw [ef] at e0 ez0
          have qe0 := fun d os => cell_regrown e0 d os
          cases c0 : nameB f
          · have hp : (tst nameB ltB) (prevO l (0)) (l[0]'(by omega)) = false := by
              rw [prev_zero l, ef]
              show (nameB f && true) = _
              rw [c0]
              rfl
            go_wp2
            refine wp_region_quiet_below (by kernel_rfl) (by kernel_rfl) ?_
            repeat (first | go_big_quiet_step (with_reducible exact nameZ_q _ _ ez0 _ c0 _ _) | quiet_step (with_reducible exact nameZ_q _ _ ez0 _ c0 _ _))
            refine wpQuiet_nil ?_
            intro _ hw'
            obtain ⟨⟨dq, osq⟩, hw''⟩ := hw'
            subst hw''
            go_wp2
            go_ret
            rw [ok_no (lim := 8) (T := (tst nameB ltB)) (k := 0) (by omega) hp]
            exact ⟨rfl, hbel.out.trans ((below_regrown _ dq osq).mono hs)⟩
          · have hp : (tst nameB ltB) (prevO l (0)) (l[0]'(by omega)) = true := by
              rw [prev_zero l, ef]
              show (nameB f && true) = _
              rw [c0]
              rfl
            go_wp2
            refine wp_region_quiet_below (by kernel_rfl) (by kernel_rfl) ?_
            repeat (first | go_big_quiet_step (with_reducible exact nameZ_q _ _ ez0 _ c0 _ _) | quiet_step (with_reducible exact nameZ_q _ _ ez0 _ c0 _ _))
            refine wpQuiet_nil ?_
            intro _ hw'
            obtain ⟨⟨dq, osq⟩, hw''⟩ := hw'
            subst hw''
            go_wp2
            go_roundw
            case rel => exact ⟨0 + 1, by omega, by go_num, fun j hj hjk => by
              by_cases e : j = 0
              · subst e; exact hp
              · exact hall.out j hj (by omega), hbel.out.trans ((below_regrown _ dq osq).mono hs)⟩
            case measure => simp [intOf]; omega
        · obtain ⟨m, rfl⟩ : ∃ m, q = m + 1 := ⟨q - 1, by omega⟩
          obtain ⟨b, off, rfl, hbS, cc, hcell, hat⟩ := HC.out (m + 1) (by omega)
          have hb := hS b hbS
          rw [width_str] at hcell
          have e0 : wr.cell? ⟨b, off + (m + 1), none⟩ = some (cc 0) := (hbel.out.cell (p := ⟨b, off + (m + 1), none⟩) hb).trans (by have hq := hcell 0 (by omega); first | exact hq | simpa using hq)
          rw [at_str] at hat
          rw [hat.1] at e0
          have ez0 := hat.2
          clear hcell hat
          obtain ⟨f, ef⟩ : ∃ f, l[(m + 1)]'(by omega) = f := ⟨_, rfl⟩
          rw [ef] at e0 ez0
          have qe0 := fun d os => cell_regrown e0 d os
          obtain ⟨b', off', e', _, dd, hcell, hat⟩ := HC.out m (by omega)
          cases e'
          rw [width_str] at hcell
          have m0 : wr.cell? ⟨b, off + m, none⟩ = some (dd 0) := (hbel.out.cell (p := ⟨b, off + m, none⟩) hb).trans (by have hq := hcell 0 (by omega); first | exact hq | simpa using hq)
          rw [at_str] at hat
          rw [hat.1] at m0
          have mz0 := hat.2
          clear hcell hat
          obtain ⟨g, eg⟩ : ∃ f, l[m]'(by omega) = f := ⟨_, rfl⟩
          rw [eg] at m0 mz0
          have qm0 := fun d os => cell_regrown m0 d os
          have gt0 : decide ((0 : Int) < ((m : Int) + 1)) = true := by rw [decide_eq_true_eq]; omega
          cases c0 : nameB f
          · have hp : (tst nameB ltB) (prevO l ((m + 1))) (l[(m + 1)]'(by omega)) = false := by
              rw [prev_succ l m (by omega), ef, eg]
              show (nameB f && ltB g f) = _
              rw [c0]
              rfl
            go_wp2
            refine wp_region_quiet_below (by kernel_rfl) (by kernel_rfl) ?_
            repeat (first | go_big_quiet_step (with_reducible exact nameZ_q _ _ ez0 _ c0 _ _) | quiet_step (with_reducible exact nameZ_q _ _ ez0 _ c0 _ _))
            refine wpQuiet_nil ?_
            intro _ hw'
            obtain ⟨⟨dq, osq⟩, hw''⟩ := hw'
            subst hw''
            go_wp2
            go_ret
            rw [ok_no (lim := 8) (T := (tst nameB ltB)) (k := (m + 1)) (by omega) hp]
            exact ⟨rfl, hbel.out.trans ((below_regrown _ dq osq).mono hs)⟩
          · cases c1 : Op.bytesLess g.toList f.toList
            · have hp : (tst nameB ltB) (prevO l ((m + 1))) (l[(m + 1)]'(by omega)) = false := by
                rw [prev_succ l m (by omega), ef, eg]
                show (nameB f && ltB g f) = _
                rw [c0, show ltB g f = false from c1]
                rfl
              go_wp2
              refine wp_region_quiet_below (by kernel_rfl) (by kernel_rfl) ?_
              repeat (first | go_big_quiet_step (with_reducible exact nameZ_q _ _ ez0 _ c0 _ _) | quiet_step (with_reducible exact nameZ_q _ _ ez0 _ c0 _ _))
              refine wpQuiet_nil ?_
              intro _ hw'
              obtain ⟨⟨dq, osq⟩, hw''⟩ := hw'
              subst hw''
              go_wp2
              go_ret
              rw [ok_no (lim := 8) (T := (tst nameB ltB)) (k := (m + 1)) (by omega) hp]
              exact ⟨rfl, hbel.out.trans ((below_regrown _ dq osq).mono hs)⟩
            · have hp : (tst nameB ltB) (prevO l ((m + 1))) (l[(m + 1)]'(by omega)) = true := by
                rw [prev_succ l m (by omega), ef, eg]
                show (nameB f && ltB g f) = _
                rw [c0, show ltB g f = true from c1]
                rfl
              go_wp2
              refine wp_region_quiet_below (by kernel_rfl) (by kernel_rfl) ?_
              repeat (first | go_big_quiet_step (with_reducible exact nameZ_q _ _ ez0 _ c0 _ _) | quiet_step (with_reducible exact nameZ_q _ _ ez0 _ c0 _ _))
              refine wpQuiet_nil ?_
              intro _ hw'
              obtain ⟨⟨dq, osq⟩, hw''⟩ := hw'
              subst hw''
              go_wp2
              go_roundw
              case rel => exact ⟨(m + 1) + 1, by omega, by go_num, fun j hj hjk => by
                by_cases e : j = (m + 1)
                · subst e; exact hp
                · exact hall.out j hj (by omega), hbel.out.trans ((below_regrown _ dq osq).mono hs)⟩
              case measure => simp [intOf]; omega
      · have hqn : q = n := by omega
        subst hqn
        go_wp2
        go_ret
        rw [ok_yes (lim := 8) (T := (tst nameB ltB)) (by omega) (fun i hi => hall.out i hi (by omega))]
        exact ⟨rfl, hbel.out⟩
  · have d0 : decide ((8 : Int) < (n : Int)) = true := by simp; omega
    go_enter Tryz.func35, Tryz.ntmps35
    go_wp2
    go_ret
    rw [ok_long (lim := 8) (T := (tst nameB ltB)) (by omega)]
    exact ⟨rfl, Below.refl _ _⟩
open Go.Sort in
theorem hasZ_q (S : Nat → Prop) (v : Value) (l : List ByteArray) (x : ByteArray) (wr : World) (h : AtL S wr l v) (hS : ∀ b, S b → b < wr.heap.size) (r : Bool) (hr : hasB l x = r) (d : Nat) (os : Array Obj) : Calls Tryz.prog 20 #[v, .string x] (grow (redrawn wr d) os) fun e w'' => e = .returned (.bool r) ∧ ∃ p : Regrown, w'' = grow (redrawn wr p.d) p.os :=
  Calls.regrown_of ((hasZ_any S v l x _ (h.same (Same.of_below (below_regrown wr d os) hS))).mono fun _ _ ⟨he, hw⟩ => ⟨by subst hr; exact he, hw⟩)
noncomputable def subB (all l : List ByteArray) : Bool := okB l.length (tst (fun f => hasB all f) ltB) l
set_option maxRecDepth 100000 in
set_option maxHeartbeats 8000000 in
theorem namesZ_any (S SA : Nat → Prop) (v va : Value) (l all : List ByteArray) (w : World) (h : AtL S w l v) (ha : AtL SA w all va) (hS : ∀ b, S b → b < w.heap.size) (hSA : ∀ b, SA b → b < w.heap.size) :
    Calls Tryz.prog 19 #[v, va] w fun e w' => e = .returned (.bool (subB all l)) ∧ Below w.heap.size w w' := by
  obtain ⟨oa, cap, rfl, hn, hc⟩ := h
  obtain ⟨n, en⟩ : ∃ n, l.length = n := ⟨_, rfl⟩
  rw [en] at hn
  rw [en]
  unfold maxLen at hn
  have HC : Hid _ := hc
  clear hc
  have hl : n ≤ l.length := by omega
  unfold subB
  have HALL : Hid (AtL SA w all va) := ha
  go_enter Tryz.func19, Tryz.ntmps19
  go_wp2
  go_loopw [5] (fun i wr => ∃ q : Nat, q ≤ n ∧ i = .int .i64 q ∧ Hid (∀ j (hj : j < l.length), j < q → (tst (fun f => hasB all f) ltB) (prevO l j) l[j] = true) ∧ Hid (Below w.heap.size w wr)) (fun i _ => n - (intOf i).toNat)
  case atStart => exact ⟨0, Nat.zero_le _, rfl, fun _ _ h => by omega, Below.refl _ _⟩
  case round =>
    obtain ⟨q, hq, rfl, hall, hbel⟩ := hrel
    have hs := hbel.out.size
    have HAW : Hid (AtL SA wr all va) := HALL.out.same (Same.of_below hbel.out hSA)
    have HSW : Hid (∀ b, SA b → b < wr.heap.size) := fun b hb => Nat.lt_of_lt_of_le (hSA b hb) hs
    by_cases hlt : q < n
    · rcases Nat.eq_zero_or_pos q with rfl | hpos
      · have _u := trivial
        obtain ⟨b, off, rfl, hbS, cc, hcell, hat⟩ := HC.out 0 (by omega)
        have hb := hS b hbS
        rw [width_str] at hcell
        have e0 : wr.cell? ⟨b, off, none⟩ = some (cc 0) := (hbel.out.cell (p := ⟨b, off, none⟩) hb).trans (by have hq := hcell 0 (by omega); first | exact hq | simpa using hq)
        rw [at_str] at hat
        rw [hat.1] at e0
        have ez0 := hat.2
        clear hcell hat
        obtain ⟨f, ef⟩ : ∃ f, l[0]'(by omega) = f := ⟨_, rfl⟩
        rw [ef] at e0 ez0
        have qe0 := fun d os => cell_regrown e0 d os
        cases c0 : hasB all f
        · have hp : (tst (fun f => hasB all f) ltB) (prevO l (0)) (l[0]'(by omega)) = false := by
            rw [prev_zero l, ef]
            show (hasB all f && true) = _
            rw [c0]
            rfl
          go_wp2
          refine wp_region_quiet_below (by kernel_rfl) (by kernel_rfl) ?_
          repeat (first | go_big_quiet_step (with_reducible exact hasZ_q SA va all _ _ HAW.out HSW.out _ c0 _ _) | quiet_step (with_reducible exact hasZ_q SA va all _ _ HAW.out HSW.out _ c0 _ _))
          refine wpQuiet_nil ?_
          intro _ hw'
          obtain ⟨⟨dq, osq⟩, hw''⟩ := hw'
          subst hw''
          go_wp2
          go_ret
          rw [ok_no (lim := l.length) (T := (tst (fun f => hasB all f) ltB)) (k := 0) (by omega) hp]
          exact ⟨rfl, hbel.out.trans ((below_regrown _ dq osq).mono hs)⟩
        · have hp : (tst (fun f => hasB all f) ltB) (prevO l (0)) (l[0]'(by omega)) = true := by
            rw [prev_zero l, ef]
            show (hasB all f && true) = _
            rw [c0]
            rfl
          go_wp2
          refine wp_region_quiet_below (by kernel_rfl) (by kernel_rfl) ?_
          repeat (first | go_big_quiet_step (with_reducible exact hasZ_q SA va all _ _ HAW.out HSW.out _ c0 _ _) | quiet_step (with_reducible exact hasZ_q SA va all _ _ HAW.out HSW.out _ c0 _ _))
          refine wpQuiet_nil ?_
          intro _ hw'
          obtain ⟨⟨dq, osq⟩, hw''⟩ := hw'
          subst hw''
          go_wp2
          go_roundw
          case rel => exact ⟨0 + 1, by omega, by go_num, fun j hj hjk => by
            by_cases e : j = 0
            · subst e; exact hp
            · exact hall.out j hj (by omega), hbel.out.trans ((below_regrown _ dq osq).mono hs)⟩
          case measure => simp [intOf]; omega
      · obtain ⟨m, rfl⟩ : ∃ m, q = m + 1 := ⟨q - 1, by omega⟩
        obtain ⟨b, off, rfl, hbS, cc, hcell, hat⟩ := HC.out (m + 1) (by omega)
        have hb := hS b hbS
        rw [width_str] at hcell
        have e0 : wr.cell? ⟨b, off + (m + 1), none⟩ = some (cc 0) := (hbel.out.cell (p := ⟨b, off + (m + 1), none⟩) hb).trans (by have hq := hcell 0 (by omega); first | exact hq | simpa using hq)
        rw [at_str] at hat
        rw [hat.1] at e0
        have ez0 := hat.2
        clear hcell hat
        obtain ⟨f, ef⟩ : ∃ f, l[(m + 1)]'(by omega) = f := ⟨_, rfl⟩
        rw [ef] at e0 ez0
        have qe0 := fun d os => cell_regrown e0 d os
        obtain ⟨b', off', e', _, dd, hcell, hat⟩ := HC.out m (by omega)
        cases e'
        rw [width_str] at hcell
        have m0 : wr.cell? ⟨b, off + m, none⟩ = some (dd 0) := (hbel.out.cell (p := ⟨b, off + m, none⟩) hb).trans (by have hq := hcell 0 (by omega); first | exact hq | simpa using hq)
        rw [at_str] at hat
        rw [hat.1] at m0
        have mz0 := hat.2
        clear hcell hat
        obtain ⟨g, eg⟩ : ∃ f, l[m]'(by omega) = f := ⟨_, rfl⟩
        rw [eg] at m0 mz0
        have qm0 := fun d os => cell_regrown m0 d os
        have gt0 : decide ((0 : Int) < ((m : Int) + 1)) = true := by rw [decide_eq_true_eq]; omega
        cases c0 : hasB all f
        · have hp : (tst (fun f => hasB all f) ltB) (prevO l ((m + 1))) (l[(m + 1)]'(by omega)) = false := by
            rw [prev_succ l m (by omega), ef, eg]
            show (hasB all f && ltB g f) = _
            rw [c0]
            rfl
          go_wp2
          refine wp_region_quiet_below (by kernel_rfl) (by kernel_rfl) ?_
          repeat (first | go_big_quiet_step (with_reducible exact hasZ_q SA va all _ _ HAW.out HSW.out _ c0 _ _) | quiet_step (with_reducible exact hasZ_q SA va all _ _ HAW.out HSW.out _ c0 _ _))
          refine wpQuiet_nil ?_
          intro _ hw'
          obtain ⟨⟨dq, osq⟩, hw''⟩ := hw'
          subst hw''
          go_wp2
          go_ret
          rw [ok_no (lim := l.length) (T := (tst (fun f => hasB all f) ltB)) (k := (m + 1)) (by omega) hp]
          exact ⟨rfl, hbel.out.trans ((below_regrown _ dq osq).mono hs)⟩
        · cases c1 : Op.bytesLess g.toList f.toList
          · have hp : (tst (fun f => hasB all f) ltB) (prevO l ((m + 1))) (l[(m + 1)]'(by omega)) = false := by
              rw [prev_succ l m (by omega), ef, eg]
              show (hasB all f && ltB g f) = _
              rw [c0, show ltB g f = false from c1]
              rfl
            go_wp2
            refine wp_region_quiet_below (by kernel_rfl) (by kernel_rfl) ?_
            repeat (first | go_big_quiet_step (with_reducible exact hasZ_q SA va all _ _ HAW.out HSW.out _ c0 _ _) | quiet_step (with_reducible exact hasZ_q SA va all _ _ HAW.out HSW.out _ c0 _ _))
            refine wpQuiet_nil ?_
            intro _ hw'
            obtain ⟨⟨dq, osq⟩, hw''⟩ := hw'
            subst hw''
            go_wp2
            go_ret
            rw [ok_no (lim := l.length) (T := (tst (fun f => hasB all f) ltB)) (k := (m + 1)) (by omega) hp]
            exact ⟨rfl, hbel.out.trans ((below_regrown _ dq osq).mono hs)⟩
          · have hp : (tst (fun f => hasB all f) ltB) (prevO l ((m + 1))) (l[(m + 1)]'(by omega)) = true := by
              rw [prev_succ l m (by omega), ef, eg]
              show (hasB all f && ltB g f) = _
              rw [c0, show ltB g f = true from c1]
              rfl
            go_wp2
            refine wp_region_quiet_below (by kernel_rfl) (by kernel_rfl) ?_
            repeat (first | go_big_quiet_step (with_reducible exact hasZ_q SA va all _ _ HAW.out HSW.out _ c0 _ _) | quiet_step (with_reducible exact hasZ_q SA va all _ _ HAW.out HSW.out _ c0 _ _))
            refine wpQuiet_nil ?_
            intro _ hw'
            obtain ⟨⟨dq, osq⟩, hw''⟩ := hw'
            subst hw''
            go_wp2
            go_roundw
            case rel => exact ⟨(m + 1) + 1, by omega, by go_num, fun j hj hjk => by
              by_cases e : j = (m + 1)
              · subst e; exact hp
              · exact hall.out j hj (by omega), hbel.out.trans ((below_regrown _ dq osq).mono hs)⟩
            case measure => simp [intOf]; omega
    · have hqn : q = n := by omega
      subst hqn
      go_wp2
      go_ret
      rw [ok_yes (lim := l.length) (T := (tst (fun f => hasB all f) ltB)) (by omega) (fun i hi => hall.out i hi (by omega))]
      exact ⟨rfl, hbel.out⟩
end Go.Proofs.YtaejlcanccfmmaaGreatDoor
