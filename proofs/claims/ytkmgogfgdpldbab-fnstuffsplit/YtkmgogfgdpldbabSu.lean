/-
  The model's small functions of sharing out: the sum of amounts, the place of the greatest number.
-/
import Derived.Test.YtkmgogfgdpldbabSk
namespace Go.Proofs.Ytkmgogfgdpldbab
open Go.RowKit

/-- Is a number between two? -/
def inB (n lo hi : Int) : Bool := decide (lo ≤ n ∧ n ≤ hi)
set_option maxHeartbeats 1000000 in
theorem inB_any (n lo hi : Int) (w : World) : Calls Try.prog 20 #[.int .i64 n, .int .i64 lo, .int .i64 hi] w fun e w' => e = .returned (.bool (inB n lo hi)) ∧ w' = w := by
  by_cases h1 : lo ≤ n
  · have d1 : decide (lo ≤ n) = true := decide_eq_true h1
    by_cases h2 : n ≤ hi
    · have d2 : decide (n ≤ hi) = true := decide_eq_true h2
      rw [show inB n lo hi = true from decide_eq_true ⟨h1, h2⟩]
      go_enter Try.func20, Try.ntmps20
      go_wp2
      go_ret
      exact ⟨rfl, rfl⟩
    · have d2 : decide (n ≤ hi) = false := decide_eq_false h2
      rw [show inB n lo hi = false from decide_eq_false (fun h => h2 h.2)]
      go_enter Try.func20, Try.ntmps20
      go_wp2
      go_ret
      exact ⟨rfl, rfl⟩
  · have d1 : decide (lo ≤ n) = false := decide_eq_false h1
    rw [show inB n lo hi = false from decide_eq_false (fun h => h1 h.1)]
    go_enter Try.func20, Try.ntmps20
    go_wp2
    go_ret
    exact ⟨rfl, rfl⟩

set_option maxRecDepth 100000 in
set_option maxHeartbeats 4000000 in
theorem sumS_yes (S : Nat → Prop) (v : Value) (A : List Int) (w : World) (h : AtL S w A v) (hA : OkA A) :
    Calls Try.prog 19 #[v] w fun e w' => e = .returned (.int .i64 A.sum) ∧ w' = w := by
  obtain ⟨oa, cap, rfl, hn, hc⟩ := h
  obtain ⟨n, en⟩ : ∃ n, A.length = n := ⟨_, rfl⟩
  have h16 := hA.1
  rw [en] at hn h16
  rw [en]
  have HC : Hid _ := hc
  have HA : Hid _ := hA.2
  clear hc hA hn
  have d16 : decide ((16 : Int) < (n : Int)) = false := by simp; omega
  go_enter Try.func19, Try.ntmps19
  go_wp2
  go_loop [3, 4] (fun s i => ∃ k : Nat, k ≤ n ∧ i = .int .i64 k ∧ s = .int .i64 (A.take k).sum) (fun _ i => n - (intOf i).toNat)
  case atStart => exact ⟨0, Nat.zero_le _, rfl, rfl⟩
  case round =>
    obtain ⟨k, hk, rfl, rfl⟩ := hrel
    by_cases hlt : k < n
    · obtain ⟨b, off, rfl, _, cc, hcell, hat⟩ := HC.out k (by omega)
      rw [width_int] at hcell
      have hcell := hcell 0 (by omega)
      rw [Nat.mul_one, Nat.add_zero] at hcell
      rw [at_int] at hat
      rw [hat.1] at hcell
      have hb := HA.out _ (List.getElem_mem (by omega : k < A.length))
      have hs := take_sum A k (by omega)
      have hp := take_bound HA.out k (by omega)
      obtain ⟨x, ex⟩ : ∃ x, A[k]'(by omega) = x := ⟨_, rfl⟩
      rw [ex] at hcell hb hs
      have HS : Hid _ := hs
      clear hat hs
      have hin : inB x 0 1000 = true := decide_eq_true hb
      generalize (A.take k).sum = p at *
      go_wp2_with (go_at_call 20; refine (inB_any _ _ _ _).mono ?_; rintro e w1 ⟨rfl, rfl⟩; rw [hin])
      go_round
      case rel => exact ⟨k + 1, by omega, by go_num, by rw [HS.out]⟩
      case measure => simp [intOf]; omega
    · have hkn : k = n := by omega
      subst hkn
      have ht : A.take k = A := by rw [← en]; exact List.take_length
      rw [ht]
      go_wp2
      go_ret
      exact ⟨rfl, rfl⟩

set_option maxRecDepth 100000 in
set_option maxHeartbeats 4000000 in
theorem sumS_no (S : Nat → Prop) (v : Value) (A : List Int) (w : World) (h : AtL S w A v) (hA : ¬ OkA A) :
    Calls Try.prog 19 #[v] w fun e w' => e = .returned (.int .i64 (-1)) ∧ w' = w := by
  obtain ⟨oa, cap, rfl, hn, hc⟩ := h
  obtain ⟨n, en⟩ : ∃ n, A.length = n := ⟨_, rfl⟩
  rw [en] at hn
  rw [en]
  unfold maxLen at hn
  have HC : Hid _ := hc
  have HA : Hid _ := hA
  clear hc hA
  by_cases h16 : n ≤ 16
  · have d16 : decide ((16 : Int) < (n : Int)) = false := by simp; omega
    go_enter Try.func19, Try.ntmps19
    go_wp2
    go_loop [3, 4] (fun s i => ∃ (k : Nat) (p : Int), k ≤ n ∧ i = .int .i64 k ∧ s = .int .i64 p ∧ 0 ≤ p ∧ p ≤ 1000 * k ∧ Hid (∀ j (hj : j < A.length), j < k → 0 ≤ A[j] ∧ A[j] ≤ 1000)) (fun _ i => n - (intOf i).toNat)
    case atStart => exact ⟨0, 0, Nat.zero_le _, rfl, rfl, Int.le_refl _, Int.le_refl _, fun _ _ h => by omega⟩
    case round =>
      obtain ⟨k, p, hk, rfl, rfl, hp0, hp1, hall⟩ := hrel
      by_cases hlt : k < n
      · obtain ⟨b, off, rfl, _, cc, hcell, hat⟩ := HC.out k (by omega)
        rw [width_int] at hcell
        have hcell := hcell 0 (by omega)
        rw [Nat.mul_one, Nat.add_zero] at hcell
        rw [at_int] at hat
        rw [hat.1] at hcell
        obtain ⟨x, ex⟩ : ∃ x, A[k]'(by omega) = x := ⟨_, rfl⟩
        rw [ex] at hcell
        clear hat
        by_cases hb : 0 ≤ x ∧ x ≤ 1000
        · have hin : inB x 0 1000 = true := decide_eq_true hb
          go_wp2_with (go_at_call 20; refine (inB_any _ _ _ _).mono ?_; rintro e w1 ⟨rfl, rfl⟩; rw [hin])
          go_round
          case rel => exact ⟨k + 1, p + x, by omega, by go_num, rfl, by omega, by omega, fun j hj hjk => by
            by_cases e : j = k
            · subst e; rw [ex]; omega
            · exact hall.out j hj (by omega)⟩
          case measure => simp [intOf]; omega
        · have hin : inB x 0 1000 = false := decide_eq_false hb
          go_wp2_with (go_at_call 20; refine (inB_any _ _ _ _).mono ?_; rintro e w1 ⟨rfl, rfl⟩; rw [hin])
          go_ret
          exact ⟨rfl, rfl⟩
      · exfalso
        refine HA.out ⟨by omega, fun x hx => ?_⟩
        obtain ⟨j, hj, rfl⟩ := List.getElem_of_mem hx
        exact hall.out j hj (by omega)
  · have d16 : decide ((16 : Int) < (n : Int)) = true := by simp; omega
    go_enter Try.func19, Try.ntmps19
    go_wp2
    go_ret
    exact ⟨rfl, rfl⟩

open Go.Sort in
set_option maxRecDepth 100000 in
set_option maxHeartbeats 4000000 in
theorem mostS_any (S : Nat → Prop) (v : Value) (l : List Int) (w : World) (h : AtL S w l v) (hS : ∀ b, S b → b < w.heap.size) (h0 : 0 < l.length) (hm : l.length ≤ 1048576) :
    Calls Try.prog 21 #[v] w fun e w' => e = .returned (.int .i64 (mostI l : Nat)) ∧ Below w.heap.size w w' := by
  obtain ⟨oa, cap, rfl, hn, hc⟩ := h
  unfold mostI
  obtain ⟨n, en⟩ : ∃ n, l.length = n := ⟨_, rfl⟩
  rw [en] at hn h0 hm
  rw [en]
  have HC : Hid _ := hc
  clear hc hn
  go_enter Try.func21, Try.ntmps21
  go_wp2
  go_loopw [3, 4] (fun c i wr => ∃ q : Nat, q + 1 ≤ n ∧ i = .int .i64 ((q : Int) + 1) ∧ c = .int .i64 (mostK l (q + 1) : Nat) ∧ Hid (Below w.heap.size w wr)) (fun _ i _ => n - (intOf i).toNat)
  case atStart => exact ⟨0, by omega, rfl, by have := mostK_lt l 1 (by omega); rw [show mostK l 1 = 0 by omega]; rfl, Below.refl _ _⟩
  case round =>
    obtain ⟨q, hq, rfl, rfl, hbel⟩ := hrel
    have hs := hbel.out.size
    have hkl := mostK_lt l (q + 1) (by omega)
    by_cases hlt : q + 1 < n
    · obtain ⟨b, off, rfl, hbS, ce, hce, hae⟩ := HC.out (q + 1) (by omega)
      obtain ⟨b', off', e', hbS', ca, hca, haa⟩ := HC.out (mostK l (q + 1)) (by omega)
      cases e'
      have hbb := hS b hbS
      have hK := show mostK l (q + 1 + 1) = if l.getD (mostK l (q + 1)) 0 < l.getD (q + 1) 0 then q + 1 else mostK l (q + 1) from rfl
      have HK : Hid _ := hK
      clear hK
      obtain ⟨c, ec⟩ : ∃ c, mostK l (q + 1) = c := ⟨_, rfl⟩
      simp only [ec] at hkl hca haa
      rw [ec] at HK ⊢
      have hcn : c < n := by omega
      rw [width_int] at hce hca
      have hce := hce 0 (by omega)
      have hca := hca 0 (by omega)
      rw [Nat.mul_one, Nat.add_zero] at hce hca
      rw [at_int] at hae haa
      rw [hae.1] at hce
      rw [haa.1] at hca
      obtain ⟨x, ex⟩ : ∃ x, l[q + 1]'(by omega) = x := ⟨_, rfl⟩
      obtain ⟨y, ey⟩ : ∃ y, l[c]'(by omega) = y := ⟨_, rfl⟩
      rw [ex] at hce
      rw [ey] at hca
      have hx : l.getD (q + 1) 0 = x := by rw [← ex]; simp [show q + 1 < l.length by omega]
      have hy : l.getD c 0 = y := by rw [← ey]; simp [show c < l.length by omega]
      rw [hx, hy] at HK
      clear hae haa hx hy ex ey ec
      have e0 := fun d os => cell_regrown ((hbel.out.cell (p := ⟨b, off + (q + 1), none⟩) (by show b < _; omega)).trans hce) d os
      have a0 := fun d os => cell_regrown ((hbel.out.cell (p := ⟨b, off + c, none⟩) (by show b < _; omega)).trans hca) d os
      clear hce hca
      by_cases hxy : y < x
      · have dxy : decide (y < x) = true := decide_eq_true hxy
        rw [if_pos hxy] at HK
        go_wp2
        refine wp_region_quiet_below (by kernel_rfl) (by kernel_rfl) ?_
        repeat (first | go_big_quiet_step (fail) | quiet_step (fail))
        refine wpQuiet_nil ?_
        intro _ hw'
        obtain ⟨⟨dq, osq⟩, hw''⟩ := hw'
        subst hw''
        go_wp2
        go_roundw
        case rel => exact ⟨q + 1, by omega, by go_num, by rw [HK.out]; go_num, hbel.out.trans ((below_regrown _ dq osq).mono hs)⟩
        case measure => simp [intOf]; omega
      · have dxy : decide (y < x) = false := decide_eq_false hxy
        rw [if_neg hxy] at HK
        go_wp2
        refine wp_region_quiet_below (by kernel_rfl) (by kernel_rfl) ?_
        repeat (first | go_big_quiet_step (fail) | quiet_step (fail))
        refine wpQuiet_nil ?_
        intro _ hw'
        obtain ⟨⟨dq, osq⟩, hw''⟩ := hw'
        subst hw''
        go_wp2
        go_roundw
        case rel => exact ⟨q + 1, by omega, by go_num, by rw [HK.out], hbel.out.trans ((below_regrown _ dq osq).mono hs)⟩
        case measure => simp [intOf]; omega
    · have hqn : q + 1 = n := by omega
      rw [hqn]
      go_wp2
      go_ret
      exact ⟨rfl, hbel.out⟩

end Go.Proofs.Ytkmgogfgdpldbab
