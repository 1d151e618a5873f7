/-
  The program's sum of amounts, if they are ok.
-/
import Derived.Test.YtkmgogfgdpldbabSj
import Derived.Test.YtkmgogfgdpldbabLy
import Derived.Laws.OwnMore
namespace Go.Proofs.Ytkmgogfgdpldbab
open Go.RowKit

theorem take_sum (A : List Int) (k : Nat) (h : k < A.length) : (A.take (k + 1)).sum = (A.take k).sum + A[k] := by
  rw [List.take_add_one, List.getElem?_eq_getElem h, List.sum_append]; simp
theorem take_bound {A : List Int} (h : ∀ x ∈ A, 0 ≤ x ∧ x ≤ 1000) (k : Nat) (hk : k ≤ A.length) : 0 ≤ (A.take k).sum ∧ (A.take k).sum ≤ 1000 * k := by
  have := sum_bound (A.take k) (fun x hx => h x (List.mem_of_mem_take hx))
  rw [List.length_take, Nat.min_eq_left hk] at this
  exact this

theorem sum_boundB (B : Int) (hB : 0 ≤ B) : ∀ l : List Int, (∀ x ∈ l, 0 ≤ x ∧ x ≤ B) → 0 ≤ l.sum ∧ l.sum ≤ B * l.length
  | [], _ => by simp
  | a :: A, h => by
    have ih := sum_boundB B hB A (fun x hx => h x (by simp [hx]))
    have := h a (by simp)
    simp only [List.sum_cons, List.length_cons]
    rw [Int.natCast_add, Int.mul_add]
    simp
    omega
theorem part_bound {N x T : Int} (hN : 0 ≤ N ∧ N ≤ 16000) (hx : 0 ≤ x ∧ x ≤ 1000) (hT : 0 < T) : (0 ≤ N * x ∧ N * x ≤ 16000000) ∧ (0 ≤ N * x / T ∧ N * x / T ≤ 16000000) ∧ (0 ≤ N * x % T ∧ N * x % T < T) := by
  have h1 : 0 ≤ N * x := Int.mul_nonneg hN.1 hx.1
  have h2 : N * x ≤ 16000 * 1000 := Int.mul_le_mul hN.2 hx.2 hx.1 (by omega)
  have h3 := Int.ediv_nonneg h1 (show 0 ≤ T by omega)
  have h4 := Int.ediv_le_self T h1
  exact ⟨⟨h1, by omega⟩, ⟨h3, by omega⟩, Int.emod_nonneg _ (by omega), Int.emod_lt_of_pos _ hT⟩

set_option maxRecDepth 100000 in
set_option maxHeartbeats 4000000 in
theorem sumI_yes (S : Nat → Prop) (v : Value) (A : List Int) (w : World) (h : AtL S w A v) (hA : OkA A) :
    Calls Try.prog 15 #[v] w fun e w' => e = .returned (.tuple #[.int .i64 A.sum, .bool true]) ∧ w' = w := by
  obtain ⟨oa, cap, rfl, hn, hc⟩ := h
  obtain ⟨n, en⟩ : ∃ n, A.length = n := ⟨_, rfl⟩
  have h16 := hA.1
  rw [en] at hn h16
  rw [en]
  have HC : Hid _ := hc
  have HA : Hid _ := hA.2
  clear hc hA hn
  have d16 : decide ((16 : Int) < (n : Int)) = false := by simp; omega
  go_enter Try.func15, Try.ntmps15
  go_wp2
  go_loop [4, 12] (fun s i => ∃ k : Nat, k ≤ n ∧ i = .int .i64 k ∧ s = .int .i64 (A.take k).sum) (fun _ i => n - (intOf i).toNat)
  case atStart => exact ⟨0, Nat.zero_le _, rfl, rfl⟩
  case round =>
    obtain ⟨k, hk, rfl, rfl⟩ := hrel
    by_cases hlt : k < n
    · obtain ⟨b, off, rfl, _, cc, hcell, hat⟩ := HC.out k (by omega)
      rw [width_int] at hcell
      have hcell := hcell 0 (by omega)
      rw [Nat.mul_one, Nat.add_zero] at hcell
      rw [at_int] at hat
      rw [hat.1] at hcell
      have hb := HA.out _ (List.getElem_mem (by omega : k < A.length))
      have hs := take_sum A k (by omega)
      have hp := take_bound HA.out k (by omega)
      obtain ⟨x, ex⟩ : ∃ x, A[k]'(by omega) = x := ⟨_, rfl⟩
      rw [ex] at hcell hb hs
      have HS : Hid _ := hs
      clear hat hs
      have d0 : decide (x < 0) = false := by simp; omega
      have d1 : decide ((1000 : Int) < x) = false := by simp; omega
      generalize (A.take k).sum = p at *
      go_wp2
      go_round
      case rel => exact ⟨k + 1, by omega, by go_num, by rw [HS.out]⟩
      case measure => simp [intOf]; omega
    · have hkn : k = n := by omega
      subst hkn
      have ht : A.take k = A := by rw [← en]; exact List.take_length
      rw [ht]
      go_wp2
      go_ret2
      exact ⟨rfl, rfl⟩

set_option maxRecDepth 100000 in
set_option maxHeartbeats 4000000 in
theorem sumI_no (S : Nat → Prop) (v : Value) (A : List Int) (w : World) (h : AtL S w A v) (hA : ¬ OkA A) :
    Calls Try.prog 15 #[v] w fun e w' => e = .returned (.tuple #[.int .i64 0, .bool false]) ∧ w' = w := by
  obtain ⟨oa, cap, rfl, hn, hc⟩ := h
  obtain ⟨n, en⟩ : ∃ n, A.length = n := ⟨_, rfl⟩
  rw [en] at hn
  rw [en]
  unfold maxLen at hn
  have HC : Hid _ := hc
  have HA : Hid _ := hA
  clear hc hA
  by_cases h16 : n ≤ 16
  · have d16 : decide ((16 : Int) < (n : Int)) = false := by simp; omega
    go_enter Try.func15, Try.ntmps15
    go_wp2
    go_loop [4, 12] (fun s i => ∃ (k : Nat) (p : Int), k ≤ n ∧ i = .int .i64 k ∧ s = .int .i64 p ∧ 0 ≤ p ∧ p ≤ 1000 * k ∧ Hid (∀ j (hj : j < A.length), j < k → 0 ≤ A[j] ∧ A[j] ≤ 1000)) (fun _ i => n - (intOf i).toNat)
    case atStart => exact ⟨0, 0, Nat.zero_le _, rfl, rfl, Int.le_refl _, Int.le_refl _, fun _ _ h => by omega⟩
    case round =>
      obtain ⟨k, p, hk, rfl, rfl, hp0, hp1, hall⟩ := hrel
      by_cases hlt : k < n
      · obtain ⟨b, off, rfl, _, cc, hcell, hat⟩ := HC.out k (by omega)
        rw [width_int] at hcell
        have hcell := hcell 0 (by omega)
        rw [Nat.mul_one, Nat.add_zero] at hcell
        rw [at_int] at hat
        rw [hat.1] at hcell
        obtain ⟨x, ex⟩ : ∃ x, A[k]'(by omega) = x := ⟨_, rfl⟩
        rw [ex] at hcell
        clear hat
        by_cases h0 : x < 0
        · have d0 : decide (x < 0) = true := by simp; omega
          go_wp2
          go_ret2
          exact ⟨rfl, rfl⟩
        · have d0 : decide (x < 0) = false := by simp; omega
          by_cases h1 : 1000 < x
          · have d1 : decide ((1000 : Int) < x) = true := by simp; omega
            go_wp2
            go_ret2
            exact ⟨rfl, rfl⟩
          · have d1 : decide ((1000 : Int) < x) = false := by simp; omega
            go_wp2
            go_round
            case rel => exact ⟨k + 1, p + x, by omega, by go_num, rfl, by omega, by omega, fun j hj hjk => by
              by_cases e : j = k
              · subst e; rw [ex]; omega
              · exact hall.out j hj (by omega)⟩
            case measure => simp [intOf]; omega
      · exfalso
        refine HA.out ⟨by omega, fun x hx => ?_⟩
        obtain ⟨j, hj, rfl⟩ := List.getElem_of_mem hx
        exact hall.out j hj (by omega)
  · have d16 : decide ((16 : Int) < (n : Int)) = true := by simp; omega
    go_enter Try.func15, Try.ntmps15
    go_wp2
    go_ret2
    exact ⟨rfl, rfl⟩

end Go.Proofs.Ytkmgogfgdpldbab
