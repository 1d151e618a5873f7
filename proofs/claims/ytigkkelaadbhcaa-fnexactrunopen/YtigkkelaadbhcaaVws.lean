/-
  The laws' own measure of a list of texts.
-/
import Derived.Test.YtigkkelaadbhcaaZxa
namespace Go.Proofs.Ytigkkelaadbhcaa
open Go.RowKit

set_option maxRecDepth 100000 in
set_option maxHeartbeats 4000000 in
theorem szStringS_any (S : Nat → Prop) (l : List ByteArray) (v : Value) (x : Int) (w : World) (h : AtL S w l v) (hS : ∀ b, S b → b < w.heap.size) (h0 : 0 ≤ x) (h1 : x ≤ 1048576) :
    Calls Try.prog 4 #[v, .int .i64 x] w fun e w' => ∃ y : Int, e = .returned (.int .i64 y) ∧ (y < 0 ∨ y + (totL l : Int) = x) ∧ Below w.heap.size w w' := by
  obtain ⟨oa, cap, rfl, hn, hc⟩ := h
  have ht : totL l = l.length + sumTo l l.length := rfl
  obtain ⟨n, en⟩ : ∃ n, l.length = n := ⟨_, rfl⟩
  rw [en] at ht hn
  rw [en]
  unfold maxLen at hn
  have HC : Hid _ := hc
  clear hc
  have HT : Hid _ := ht
  clear ht
  by_cases hx : (n : Int) ≤ x
  · go_enter Try.func4, Try.ntmps4
    go_wp2
    go_loopw [1, 5] (fun q i wr => ∃ (k : Nat) (y : Int), k ≤ n ∧ i = .int .i64 k ∧ q = .int .i64 y ∧ 0 ≤ y ∧ y ≤ x ∧ Hid (y + ((n + sumTo l k : Nat) : Int) = x) ∧ Hid (Below w.heap.size w wr)) (fun _ i _ => n - (intOf i).toNat)
    case atStart => exact ⟨0, _, Nat.zero_le _, rfl, rfl, by omega, by omega, by rw [sumTo_zero]; show _ = _; omega, Below.refl _ _⟩
    case round =>
      obtain ⟨k, y, hk, rfl, rfl, hy0, hy1, hsum, hbel⟩ := hrel
      have hs := hbel.out.size
      by_cases hlt : k < n
      · obtain ⟨b, off, rfl, hbS, cc, hcell, hat⟩ := HC.out k (by omega)
        have hb := hS b hbS
        have hsu := sumTo_succ l k (by omega)
        rw [width_str] at hcell
        have e0 : wr.cell? ⟨b, off + k, none⟩ = some (cc 0) := (hbel.out.cell (p := ⟨b, off + k, none⟩) (by show b < _; omega)).trans (by simpa using hcell 0 (by omega))
        clear hcell
        rw [at_str] at hat
        obtain ⟨ec, hz⟩ := hat
        rw [ec] at e0
        clear ec
        unfold maxLen at hz
        rw [tot_str] at hsu
        obtain ⟨f, ef⟩ : ∃ f, l[k]'(by omega) = f := ⟨_, rfl⟩
        rw [ef] at e0 hz hsu
        have HSU : Hid _ := hsu
        clear hsu
        by_cases hs : (f.size : Int) ≤ y
        · go_wp2
          go_roundw
          case rel => exact ⟨k + 1, _, by omega, by go_num, rfl, by omega, by omega, by rw [HSU.out]; have := hsum.out; show _ = _; omega, hbel.out⟩
          case measure => simp [intOf]; omega
        · go_wp2
          go_ret
          exact ⟨_, rfl, Or.inl (by omega), hbel.out⟩
      · have hkn : k = n := by omega
        subst hkn
        go_wp2
        go_ret
        exact ⟨y, rfl, Or.inr (by have := hsum.out; rw [HT.out]; omega), hbel.out⟩
  · go_enter Try.func4, Try.ntmps4
    go_wp2
    go_ret
    exact ⟨-1, rfl, Or.inl (by omega), Below.refl _ _⟩
end Go.Proofs.Ytigkkelaadbhcaa
