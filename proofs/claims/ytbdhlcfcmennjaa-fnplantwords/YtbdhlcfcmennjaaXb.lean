/-
  Contracts of what draws a line out of a code, the rest of them: it always gives a short text, and turns nothing that was there.
-/
import Derived.Test.YtbdhlcfcmennjaaXa
namespace Go.Proofs.Ytbdhlcfcmennjaa
open Go.RowKit

theorem Rd.next {R : Nat} {w : World} {ob : Option Addr} {n cb : Nat} {p : Int} {f : Nat → Int} (h : Rd R w ob n cb p f) (hp : p + 1 ≤ 100000) (q : Nat) : Rd R ((w.setCell ⟨R, 1, none⟩ (.int .i64 (p + 1))).drewN q) ob n cb (p + 1) f := by
  have hp0 := h.p0
  refine ⟨?_, h.le, by omega, hp, h.fb, fun i hi => ?_⟩
  · show (w.setCell ⟨R, 1, none⟩ (.int .i64 (p + 1))).heap[R]? = _
    simp [World.setCell, Array.getElem?_modify, h.at_]
  · obtain ⟨b, off, h1, h2, h3⟩ := h.ce i hi
    refine ⟨b, off, h1, h2, ?_⟩
    show (w.setCell ⟨R, 1, none⟩ (.int .i64 (p + 1))).cell? ⟨b, off + i, none⟩ = _
    rw [World.cell?_of_block (w := w) (a := ⟨b, off + i, none⟩) (Below.heap_setCell w ⟨R, 1, none⟩ _ b (by show b ≠ R; omega))]
    exact h3

theorem Rd.alloc {R : Nat} {w : World} {ob : Option Addr} {n cb : Nat} {p : Int} {f : Nat → Int} (h : Rd R w ob n cb p f) (o : Obj) : Rd R (w.alloc o) ob n cb p f := by
  have hR : R < w.heap.size := (Array.getElem?_eq_some_iff.1 h.at_).1
  refine ⟨(Below.heap_alloc w o R hR).trans h.at_, h.le, h.p0, h.p1, h.fb, fun i hi => ?_⟩
  obtain ⟨b, off, h1, h2, h3⟩ := h.ce i hi
  exact ⟨b, off, h1, h2, (World.cell?_of_block (w := w) (a := ⟨b, off + i, none⟩) (Below.heap_alloc w o b (by omega))).trans h3⟩

theorem below_next {B R : Nat} {w wr : World} (h : Below B w wr) (hB : B ≤ R) (v : Value) (q : Nat) : Below B w ((wr.setCell ⟨R, 1, none⟩ v).drewN q) := by
  have h2 := h.setCell (p := ⟨R, 1, none⟩) hB v
  exact ⟨h2.os, h2.tape, h2.output, h2.size, h2.block⟩

set_option maxRecDepth 100000 in
set_option maxHeartbeats 1000000 in
theorem of_any (R L m c : Nat) (ob : Option Addr) (n cb : Nat) (p : Int) (f : Nat → Int) (g : Nat → ByteArray) (w : World) (h : Rd R w ob n cb p f) (hL : L ≠ R) (hm : 1 ≤ m) (hm2 : m ≤ 1000) (hg : ∀ i, i < m → w.cell? ⟨L, i, none⟩ = some (.string (g i))) :
    Calls Try.prog 22 #[.pointer (some ⟨R, 0, none⟩), .slice (some ⟨L, 0, none⟩) m c] w fun e w' => ∃ i q, i < m ∧ e = .returned (.string (g i)) ∧ w' = (w.setCell ⟨R, 1, none⟩ (.int .i64 (p + 1))).drewN q := by
  have HG : Hid (∀ i, i < m → w.cell? ⟨L, i, none⟩ = some (.string (g i))) := hg
  clear hg
  go_enter Try.func22, Try.ntmps22
  go_wp2_with fail
  refine (pick_any R ob n cb p m f w h (by omega) (by omega)).mono ?_
  rintro e w1 ⟨x, q, rfl, hx0, hx1, rfl⟩
  obtain ⟨i, rfl⟩ := Int.eq_ofNat_of_zero_le hx0
  have hi : i < m := by omega
  have hci : (w.setCell ⟨R, 1, none⟩ (.int .i64 (p + 1))).cell? ⟨L, i, none⟩ = some (.string (g i)) := by
    rw [World.cell?_of_block (w := w) (a := ⟨L, i, none⟩) (Below.heap_setCell w ⟨R, 1, none⟩ _ L hL)]
    exact HG.out i hi
  go_wp2
  go_ret
  exact ⟨i, q, hi, rfl, rfl⟩

theorem many_step (u d : Nat) (k : Nat) (h : u + d * k ≤ 30) (hk : 1 ≤ k) : d ≤ 30 ∧ u + (d + d) * (k / 2) ≤ 30 ∧ (k % 2 = 1 → (u + d) + (d + d) * (k / 2) ≤ 30) := by
  have e : d * k = (d + d) * (k / 2) + d * (k % 2) := by
    have h1 : k = 2 * (k / 2) + k % 2 := by omega
    calc d * k = d * (2 * (k / 2) + k % 2) := by rw [← h1]
      _ = (d + d) * (k / 2) + d * (k % 2) := by rw [Nat.mul_add, ← Nat.mul_assoc, Nat.mul_comm d 2, Nat.two_mul]
  have hd : d ≤ d * k := Nat.le_mul_of_pos_right d hk
  refine ⟨by omega, by omega, fun h2 => ?_⟩
  rw [h2] at e
  omega

set_option maxRecDepth 100000 in
set_option maxHeartbeats 1000000 in
theorem many_any (s : ByteArray) (n : Int) (w : World) (hs : s.size = 1) (h0 : 0 ≤ n) (h1 : n ≤ 30) :
    Calls Try.prog 23 #[.string s, .int .i64 n] w fun e w' => ∃ t : ByteArray, e = .returned (.string t) ∧ t.size ≤ 30 ∧ w' = w := by
  obtain ⟨n0, rfl⟩ := Int.eq_ofNat_of_zero_le h0
  go_enter Try.func23, Try.ntmps23
  go_wp2
  go_loop [0, 1, 5] (fun d i u => ∃ (k : Nat) (ds us : ByteArray), d = .string ds ∧ u = .string us ∧ i = .int .i64 k ∧ k ≤ 30 ∧ ds.size ≤ 60 ∧ Hid (us.size + ds.size * k ≤ 30) ∧ us.size ≤ 30) (fun _ i _ => (intOf i).toNat)
  case atStart => exact ⟨n0, s, ⟨#[]⟩, rfl, rfl, rfl, by omega, by omega, by show 0 + s.size * n0 ≤ 30; rw [hs]; omega, by decide⟩
  case round =>
    obtain ⟨k, ds, us, rfl, rfl, rfl, hk, hds, hinv, hus⟩ := hrel
    by_cases hp : 0 < k
    · obtain ⟨a1, a2, a3⟩ := many_step us.size ds.size k hinv.out hp
      have A3 : Hid _ := a3
      have A2 : Hid _ := a2
      clear a3 a2
      by_cases hodd : k % 2 = 1
      · have ho : (((k : Int) % 2) == 1) = true := by simp; omega
        go_wp2
        go_round
        case rel =>
          have := A3.out hodd
          refine ⟨k / 2, ds ++ ds, us ++ ds, rfl, rfl, by go_num, by omega, by rw [ByteArray.size_append]; omega, ?_, ?_⟩
          · show (us ++ ds).size + (ds ++ ds).size * (k / 2) ≤ 30
            rw [ByteArray.size_append, ByteArray.size_append]; exact this
          · rw [ByteArray.size_append]; omega
        case measure => simp [intOf]; omega
      · have ho : (((k : Int) % 2) == 1) = false := by simp; omega
        go_wp2
        go_round
        case rel =>
          refine ⟨k / 2, ds ++ ds, us, rfl, rfl, by go_num, by omega, by rw [ByteArray.size_append]; omega, ?_, hus⟩
          show us.size + (ds ++ ds).size * (k / 2) ≤ 30
          rw [ByteArray.size_append]; exact A2.out
        case measure => simp [intOf]; omega
    · go_wp2
      go_ret
      exact ⟨us, rfl, hus, rfl⟩

set_option maxRecDepth 100000 in
set_option maxHeartbeats 1000000 in
theorem open_any (ob : Option Addr) (n cb : Nat) (w : World) (hn : n ≤ maxLen) (hnc : n ≤ cb) (h0 : 1 ≤ n → ∃ a, ob = some a) :
    Calls Try.prog 20 #[.slice ob n cb] w fun e w' => ∃ n' , n' ≤ 2000 ∧ n' ≤ n ∧ e = .returned (.pointer (some ⟨w.heap.size, 0, none⟩)) ∧ w' = w.alloc (.cells #[.slice ob n' cb, .int .i64 0] 78) := by
  unfold maxLen at hn
  by_cases hb : n ≤ 2000
  · go_enter Try.func20, Try.ntmps20
    go_wp2
    go_ret
    exact ⟨n, hb, Nat.le_refl _, rfl, rfl⟩
  · obtain ⟨a, rfl⟩ := h0 (by omega)
    go_enter Try.func20, Try.ntmps20
    go_wp2
    go_ret
    exact ⟨2000, by omega, by omega, rfl, rfl⟩

end Go.Proofs.Ytbdhlcfcmennjaa
