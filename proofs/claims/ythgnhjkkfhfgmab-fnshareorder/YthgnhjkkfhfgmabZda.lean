/-
  Contracts of the reader that draws numbers out of a code.
-/
import Derived.Test.YthgnhjkkfhfgmabLo
namespace Go.Proofs.Ythgnhjkkfhfgmab
open Go.RowKit

/-- The reader in block R: what is left of a code of n bytes, and how often it was asked. -/
structure Rd (R : Nat) (w : World) (ob : Option Addr) (n cb : Nat) (p : Int) (f : Nat → Int) : Prop where
  at_ : w.heap[R]? = some (.cells #[.slice ob n cb, .int .i64 p] 66 (0, 0))
  le : n ≤ 2000
  p0 : 0 ≤ p
  p1 : p ≤ 100000
  fb : ∀ i, 0 ≤ f i ∧ f i ≤ 255
  ce : ∀ i, i < n → ∃ b off, ob = some ⟨b, off, none⟩ ∧ b < R ∧ w.cell? ⟨b, off + i, none⟩ = some (.int .u8 (f i))


theorem wrap_i64 (n : Int) (h0 : 0 ≤ n) (h1 : n < 9223372036854775808) : IntKind.i64.wrap n = n := by
  simp [IntKind.wrap, IntKind.bits, IntKind.signed]; omega

theorem xor_i64 (a b : Int) (a0 : 0 ≤ a) (a1 : a ≤ 1000000000) (b0 : 0 ≤ b) (b1 : b ≤ 1000000000) : 0 ≤ bits .xor .i64 a b := by
  obtain ⟨x, rfl⟩ := Int.eq_ofNat_of_zero_le a0
  obtain ⟨y, rfl⟩ := Int.eq_ofNat_of_zero_le b0
  have hx : x ^^^ y < 2 ^ 32 := Nat.xor_lt_two_pow (by omega) (by omega)
  have h1 : (BitVec.ofInt 64 (x : Int)).toNat = x := by
    rw [BitVec.ofInt_natCast, BitVec.toNat_ofNat]; exact Nat.mod_eq_of_lt (by omega)
  have h2 : (BitVec.ofInt 64 (y : Int)).toNat = y := by
    rw [BitVec.ofInt_natCast, BitVec.toNat_ofNat]; exact Nat.mod_eq_of_lt (by omega)
  show 0 ≤ IntKind.i64.wrap ((BitVec.ofInt 64 (x : Int) ^^^ BitVec.ofInt 64 (y : Int)).toNat : Int)
  rw [BitVec.toNat_xor, h1, h2, wrap_i64 _ (by omega) (by omega)]
  omega

set_option maxRecDepth 100000 in
set_option maxHeartbeats 1000000 in
theorem pick_any (R : Nat) (ob : Option Addr) (n cb : Nat) (p m : Int) (f : Nat → Int) (w : World) (h : Rd R w ob n cb p f) (hm : 1 ≤ m) (hm2 : m ≤ 1000) :
    Calls Try.prog 33 #[.pointer (some ⟨R, 0, none⟩), .int .i64 m] w fun e w' => ∃ x q, e = .returned (.int .i64 x) ∧ 0 ≤ x ∧ x < m ∧ w' = (w.setCell ⟨R, 1, none⟩ (.int .i64 (p + 1))).drewN q := by
  obtain ⟨c0, f0⟩ := cell_row h.at_ 0 (.slice ob n cb) rfl
  obtain ⟨c1, f1⟩ := cell_row h.at_ 1 (.int .i64 p) rfl
  have hn := h.le
  have hp0 := h.p0
  have hp1 := h.p1
  by_cases hz : n = 0
  · subst hz
    go_enter Try.func33, Try.ntmps33
    go_wp2
    go_ret
    exact ⟨0, 0, rfl, by omega, by omega, rfl⟩
  · have hm1 : decide (m < 1) = false := by simp; omega
    have hz1 : ((n : Int) == 0) = false := by simp; omega
    by_cases hk : p < n
    · obtain ⟨k, rfl⟩ := Int.eq_ofNat_of_zero_le hp0
      obtain ⟨b, off, rfl, hbR, hcb⟩ := h.ce k (by omega)
      have hfb := h.fb k
      have hne : ¬ b = R := by omega
      go_enter Try.func33, Try.ntmps33
      go_wp2
      go_ret
      exact ⟨f k % m, 0, rfl, Int.emod_nonneg _ (by omega), Int.emod_lt_of_pos _ (by omega), rfl⟩
    · obtain ⟨k, rfl⟩ := Int.eq_ofNat_of_zero_le hp0
      obtain ⟨b, off, rfl, hbR, hc1⟩ := h.ce (k % n) (Nat.mod_lt _ (by omega))
      obtain ⟨b2, off2, e2, hbR2, hc2⟩ := h.ce ((k * 7 + 3) % n) (Nat.mod_lt _ (by omega))
      have hb1 := h.fb (k % n)
      have hb2 := h.fb ((k * 7 + 3) % n)
      generalize f (k % n) = x1 at hc1 hb1
      generalize f ((k * 7 + 3) % n) = x2 at hc2 hb2
      cases e2
      have hne : ¬ b = R := by omega
      have i1 := Int.emod_nonneg (k : Int) (show (n : Int) ≠ 0 by omega)
      have i2 := Int.emod_lt_of_pos (k : Int) (show (0 : Int) < n by omega)
      have i3 := Int.emod_nonneg ((k : Int) * 7 + 3) (show (n : Int) ≠ 0 by omega)
      have i4 := Int.emod_lt_of_pos ((k : Int) * 7 + 3) (show (0 : Int) < n by omega)
      have i5 : 0 ≤ (k : Int) / (n : Int) := Int.ediv_nonneg (by omega) (by omega)
      have i6 : (k : Int) / (n : Int) ≤ k := Int.ediv_le_self _ (by omega)
      go_enter Try.func33, Try.ntmps33
      go_wp2
      go_region
      go_wp2
      go_ret
      have hx := xor_i64 (x1 * 131 + x2 * 1117 + (k : Int) * 29 + (k : Int) / (n : Int) * 53) ((x1 * 131 + x2 * 1117 + (k : Int) * 29 + (k : Int) / (n : Int) * 53) / 64) (by omega) (by omega) (by omega) (by omega)
      refine ⟨_, 1, rfl, ?_, ?_, rfl⟩
      · exact Int.tmod_nonneg _ hx
      · exact Int.tmod_lt_of_pos _ (by omega)

theorem Rd.next {R : Nat} {w : World} {ob : Option Addr} {n cb : Nat} {p : Int} {f : Nat → Int} (h : Rd R w ob n cb p f) (hp : p + 1 ≤ 100000) (q : Nat) : Rd R ((w.setCell ⟨R, 1, none⟩ (.int .i64 (p + 1))).drewN q) ob n cb (p + 1) f := by
  have hp0 := h.p0
  refine ⟨?_, h.le, by omega, hp, h.fb, fun i hi => ?_⟩
  · show (w.setCell ⟨R, 1, none⟩ (.int .i64 (p + 1))).heap[R]? = _
    simp [World.setCell, Array.getElem?_modify, h.at_]
  · obtain ⟨b, off, h1, h2, h3⟩ := h.ce i hi
    refine ⟨b, off, h1, h2, ?_⟩
    show (w.setCell ⟨R, 1, none⟩ (.int .i64 (p + 1))).cell? ⟨b, off + i, none⟩ = _
    rw [World.cell?_of_block (w := w) (a := ⟨b, off + i, none⟩) (Below.heap_setCell w ⟨R, 1, none⟩ _ b (by show b ≠ R; omega))]
    exact h3

theorem Rd.alloc {R : Nat} {w : World} {ob : Option Addr} {n cb : Nat} {p : Int} {f : Nat → Int} (h : Rd R w ob n cb p f) (o : Obj) : Rd R (w.alloc o) ob n cb p f := by
  have hR : R < w.heap.size := (Array.getElem?_eq_some_iff.1 h.at_).1
  refine ⟨(Below.heap_alloc w o R hR).trans h.at_, h.le, h.p0, h.p1, h.fb, fun i hi => ?_⟩
  obtain ⟨b, off, h1, h2, h3⟩ := h.ce i hi
  exact ⟨b, off, h1, h2, (World.cell?_of_block (w := w) (a := ⟨b, off + i, none⟩) (Below.heap_alloc w o b (by omega))).trans h3⟩

theorem below_next {B R : Nat} {w wr : World} (h : Below B w wr) (hB : B ≤ R) (v : Value) (q : Nat) : Below B w ((wr.setCell ⟨R, 1, none⟩ v).drewN q) := by
  have h2 := h.setCell (p := ⟨R, 1, none⟩) hB v
  exact ⟨h2.os, h2.tape, h2.output, h2.size, h2.block⟩

theorem open_any (ob : Option Addr) (n cb : Nat) (w : World) (hn : n ≤ maxLen) (hnc : n ≤ cb) (h0 : 1 ≤ n → ∃ a, ob = some a) :
    Calls Try.prog 16 #[.slice ob n cb] w fun e w' => ∃ n' , n' ≤ 2000 ∧ n' ≤ n ∧ e = .returned (.pointer (some ⟨w.heap.size, 0, none⟩)) ∧ w' = w.alloc (.cells #[.slice ob n' cb, .int .i64 0] 66) := by
  unfold maxLen at hn
  by_cases hb : n ≤ 2000
  · go_enter Try.func16, Try.ntmps16
    go_wp2
    go_ret
    exact ⟨n, hb, Nat.le_refl _, rfl, rfl⟩
  · obtain ⟨a, rfl⟩ := h0 (by omega)
    go_enter Try.func16, Try.ntmps16
    go_wp2
    go_ret
    exact ⟨2000, by omega, by omega, rfl, rfl⟩

/-- What a round keeps: the reader, and all that was there. -/
structure Kp (R : Nat) (w0 w : World) (ob : Option Addr) (n cb : Nat) (p : Int) (f : Nat → Int) : Prop where
  rd : Rd R w ob n cb p f
  bel : Below R w0 w

theorem Kp.alloc {R : Nat} {w0 w : World} {ob : Option Addr} {n cb : Nat} {p : Int} {f : Nat → Int} (h : Kp R w0 w ob n cb p f) (o : Obj) : Kp R w0 (w.alloc o) ob n cb p f :=
  ⟨h.rd.alloc o, h.bel.alloc (by have := (Array.getElem?_eq_some_iff.1 h.rd.at_).1; omega) o⟩

theorem pick_kp (R : Nat) (w0 w : World) (ob : Option Addr) (n cb : Nat) (p m : Int) (f : Nat → Int) (h : Kp R w0 w ob n cb p f) (hp : p ≤ 200) (hm : 1 ≤ m) (hm2 : m ≤ 1000) :
    Calls Try.prog 33 #[.pointer (some ⟨R, 0, none⟩), .int .i64 m] w fun e w' => ∃ x, e = .returned (.int .i64 x) ∧ 0 ≤ x ∧ x < m ∧ Hid (Kp R w0 w' ob n cb (p + 1) f) ∧ Hid (∀ b, b ≠ R → w'.heap[b]? = w.heap[b]?) ∧ w'.heap.size = w.heap.size := by
  refine (pick_any R ob n cb p m f w h.rd hm hm2).mono ?_
  rintro e w' ⟨x, q, rfl, h0, h1, rfl⟩
  exact ⟨x, rfl, h0, h1, ⟨h.rd.next (by omega) q, below_next h.bel (Nat.le_refl _) _ q⟩, fun b hb => Below.heap_setCell _ _ _ _ hb, by show (w.setCell _ _).heap.size = _; simp⟩
theorem Kp.lt {R : Nat} {w0 w : World} {ob : Option Addr} {n cb : Nat} {p : Int} {f : Nat → Int} (h : Kp R w0 w ob n cb p f) : R < w.heap.size := (Array.getElem?_eq_some_iff.1 h.rd.at_).1
theorem Kp.grown {R : Nat} {w0 w w' : World} {ob : Option Addr} {n cb : Nat} {p : Int} {f : Nat → Int} {row : Option Nat} (h : Kp R w0 w ob n cb p f) (hg : w.grownBy w' row) (hr : ∀ k, row = some k → R + 1 ≤ k) : Kp R w0 w' ob n cb p f := by
  have hR := h.lt
  have hne : ∀ b, b ≤ R → some b ≠ row := fun b hb e => by have := hr b e.symm; omega
  refine ⟨⟨(hg.block R hR (hne R (Nat.le_refl _))).trans h.rd.at_, h.rd.le, h.rd.p0, h.rd.p1, h.rd.fb, fun i hi => ?_⟩, h.bel.grown hg (by omega) (fun k hk => by have := hr k hk; omega)⟩
  obtain ⟨b, off, h1, h2, h3⟩ := h.rd.ce i hi
  exact ⟨b, off, h1, h2, (World.cell?_of_block (w := w) (a := ⟨b, off + i, none⟩) (hg.block b (by omega) (hne b (by omega)))).trans h3⟩

theorem dec_k {k : Nat} (h : 0 < k) : Value.int .i64 ((k : Int) - 1) = .int .i64 ((k - 1 : Nat) : Int) := by
  rw [show ((k : Int) - 1) = ((k - 1 : Nat) : Int) from by omega]

end Go.Proofs.Ythgnhjkkfhfgmab
