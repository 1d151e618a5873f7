/-
  Contracts of what draws a line out of a code: a number below a bound, one of a list, a text several times.
-/
import Derived.Test.YtbdhlcfcmennjaaChecked
import Derived.WalkKit
import Derived.WalkSpells
import Derived.WalkLawsBesides
import Derived.BigQuiet
import Derived.Deep.QuietTactic
namespace Go.Proofs.Ytbdhlcfcmennjaa
open Go.RowKit

/-- The reader in block R: what is left of a code of n bytes, and how often it was asked. -/
structure Rd (R : Nat) (w : World) (ob : Option Addr) (n cb : Nat) (p : Int) (f : Nat → Int) : Prop where
  at_ : w.heap[R]? = some (.cells #[.slice ob n cb, .int .i64 p] 78 (0, 0))
  le : n ≤ 2000
  p0 : 0 ≤ p
  p1 : p ≤ 100000
  fb : ∀ i, 0 ≤ f i ∧ f i ≤ 255
  ce : ∀ i, i < n → ∃ b off, ob = some ⟨b, off, none⟩ ∧ b < R ∧ w.cell? ⟨b, off + i, none⟩ = some (.int .u8 (f i))

theorem cell_at {w : World} {g : Nat} {c : Array Value} {t : TypeId} (h : w.heap[g]? = some (.cells c t (0, 0))) (i : Nat) (v : Value) (hi : c[i]? = some v) : w.cell? ⟨g, i, none⟩ = some v ∧ w.frozen? ⟨g, i, none⟩ = false := by
  constructor
  · simp [World.cell?, h, hi]
  · simp [World.frozen?, h]

theorem wrap_i64 (n : Int) (h0 : 0 ≤ n) (h1 : n < 9223372036854775808) : IntKind.i64.wrap n = n := by
  simp [IntKind.wrap, IntKind.bits, IntKind.signed]; omega

theorem xor_i64 (a b : Int) (a0 : 0 ≤ a) (a1 : a ≤ 1000000000) (b0 : 0 ≤ b) (b1 : b ≤ 1000000000) : 0 ≤ bits .xor .i64 a b := by
  obtain ⟨x, rfl⟩ := Int.eq_ofNat_of_zero_le a0
  obtain ⟨y, rfl⟩ := Int.eq_ofNat_of_zero_le b0
  have hx : x ^^^ y < 2 ^ 32 := Nat.xor_lt_two_pow (by omega) (by omega)
  have h1 : (BitVec.ofInt 64 (x : Int)).toNat = x := by
    rw [BitVec.ofInt_natCast, BitVec.toNat_ofNat]; exact Nat.mod_eq_of_lt (by omega)
  have h2 : (BitVec.ofInt 64 (y : Int)).toNat = y := by
    rw [BitVec.ofInt_natCast, BitVec.toNat_ofNat]; exact Nat.mod_eq_of_lt (by omega)
  show 0 ≤ IntKind.i64.wrap ((BitVec.ofInt 64 (x : Int) ^^^ BitVec.ofInt 64 (y : Int)).toNat : Int)
  rw [BitVec.toNat_xor, h1, h2, wrap_i64 _ (by omega) (by omega)]
  omega

set_option maxRecDepth 100000 in
set_option maxHeartbeats 1000000 in
theorem pick_any (R : Nat) (ob : Option Addr) (n cb : Nat) (p m : Int) (f : Nat → Int) (w : World) (h : Rd R w ob n cb p f) (hm : 1 ≤ m) (hm2 : m ≤ 1000) :
    Calls Try.prog 21 #[.pointer (some ⟨R, 0, none⟩), .int .i64 m] w fun e w' => ∃ x q, e = .returned (.int .i64 x) ∧ 0 ≤ x ∧ x < m ∧ w' = (w.setCell ⟨R, 1, none⟩ (.int .i64 (p + 1))).drewN q := by
  obtain ⟨c0, f0⟩ := cell_at h.at_ 0 (.slice ob n cb) rfl
  obtain ⟨c1, f1⟩ := cell_at h.at_ 1 (.int .i64 p) rfl
  have hn := h.le
  have hp0 := h.p0
  have hp1 := h.p1
  by_cases hz : n = 0
  · subst hz
    go_enter Try.func21, Try.ntmps21
    go_wp2
    go_ret
    exact ⟨0, 0, rfl, by omega, by omega, rfl⟩
  · have hm1 : decide (m < 1) = false := by simp; omega
    have hz1 : ((n : Int) == 0) = false := by simp; omega
    by_cases hk : p < n
    · obtain ⟨k, rfl⟩ := Int.eq_ofNat_of_zero_le hp0
      obtain ⟨b, off, rfl, hbR, hcb⟩ := h.ce k (by omega)
      have hfb := h.fb k
      have hne : ¬ b = R := by omega
      go_enter Try.func21, Try.ntmps21
      go_wp2
      go_ret
      exact ⟨f k % m, 0, rfl, Int.emod_nonneg _ (by omega), Int.emod_lt_of_pos _ (by omega), rfl⟩
    · obtain ⟨k, rfl⟩ := Int.eq_ofNat_of_zero_le hp0
      obtain ⟨b, off, rfl, hbR, hc1⟩ := h.ce (k % n) (Nat.mod_lt _ (by omega))
      obtain ⟨b2, off2, e2, hbR2, hc2⟩ := h.ce ((k * 7 + 3) % n) (Nat.mod_lt _ (by omega))
      have hb1 := h.fb (k % n)
      have hb2 := h.fb ((k * 7 + 3) % n)
      generalize f (k % n) = x1 at hc1 hb1
      generalize f ((k * 7 + 3) % n) = x2 at hc2 hb2
      cases e2
      have hne : ¬ b = R := by omega
      have i1 := Int.emod_nonneg (k : Int) (show (n : Int) ≠ 0 by omega)
      have i2 := Int.emod_lt_of_pos (k : Int) (show (0 : Int) < n by omega)
      have i3 := Int.emod_nonneg ((k : Int) * 7 + 3) (show (n : Int) ≠ 0 by omega)
      have i4 := Int.emod_lt_of_pos ((k : Int) * 7 + 3) (show (0 : Int) < n by omega)
      have i5 : 0 ≤ (k : Int) / (n : Int) := Int.ediv_nonneg (by omega) (by omega)
      have i6 : (k : Int) / (n : Int) ≤ k := Int.ediv_le_self _ (by omega)
      go_enter Try.func21, Try.ntmps21
      go_wp2
      go_region
      go_wp2
      go_ret
      have hx := xor_i64 (x1 * 131 + x2 * 1117 + (k : Int) * 29 + (k : Int) / (n : Int) * 53) ((x1 * 131 + x2 * 1117 + (k : Int) * 29 + (k : Int) / (n : Int) * 53) / 64) (by omega) (by omega) (by omega) (by omega)
      refine ⟨_, 1, rfl, ?_, ?_, rfl⟩
      · exact Int.tmod_nonneg _ hx
      · exact Int.tmod_lt_of_pos _ (by omega)

end Go.Proofs.Ytbdhlcfcmennjaa
