/-
  The contract of the drawing of a line: whatever the code, a text of at most 2,000 bytes.
-/
import Derived.Test.YtbdhlcfcmennjaaXb
namespace Go.Proofs.Ytbdhlcfcmennjaa
open Go.RowKit

/-- The lists out of which a text is taken. -/
def four (i : Nat) : ByteArray := if i = 0 then ⟨#[127]⟩ else if i = 1 then ⟨#[9]⟩ else if i = 2 then ⟨#[0]⟩ else ⟨#[195, 169]⟩
def five (i : Nat) : ByteArray := if i = 0 then ⟨#[118, 97, 108, 118, 101]⟩ else if i = 1 then ⟨#[97]⟩ else if i = 2 then ⟨#[49, 50]⟩ else if i = 3 then ⟨#[33]⟩ else ⟨#[126]⟩
theorem four_le (i : Nat) : (four i).size ≤ 5 := by
  unfold four
  split
  · decide
  · split
    · decide
    · split
      · decide
      · decide
theorem five_le (i : Nat) : (five i).size ≤ 5 := by
  unfold five
  split
  · decide
  · split
    · decide
    · split
      · decide
      · split
        · decide
        · decide

/-- What a round keeps: the reader, and all that was there. -/
structure Kp (R : Nat) (w0 w : World) (ob : Option Addr) (n cb : Nat) (p : Int) (f : Nat → Int) : Prop where
  rd : Rd R w ob n cb p f
  bel : Below R w0 w

theorem Kp.alloc {R : Nat} {w0 w : World} {ob : Option Addr} {n cb : Nat} {p : Int} {f : Nat → Int} (h : Kp R w0 w ob n cb p f) (o : Obj) : Kp R w0 (w.alloc o) ob n cb p f :=
  ⟨h.rd.alloc o, h.bel.alloc (by have := (Array.getElem?_eq_some_iff.1 h.rd.at_).1; omega) o⟩

theorem pick_kp (R : Nat) (w0 w : World) (ob : Option Addr) (n cb : Nat) (p m : Int) (f : Nat → Int) (h : Kp R w0 w ob n cb p f) (hp : p ≤ 200) (hm : 1 ≤ m) (hm2 : m ≤ 1000) :
    Calls Try.prog 21 #[.pointer (some ⟨R, 0, none⟩), .int .i64 m] w fun e w' => ∃ x, e = .returned (.int .i64 x) ∧ 0 ≤ x ∧ x < m ∧ Hid (Kp R w0 w' ob n cb (p + 1) f) := by
  refine (pick_any R ob n cb p m f w h.rd hm hm2).mono ?_
  rintro e w' ⟨x, q, rfl, h0, h1, rfl⟩
  exact ⟨x, rfl, h0, h1, h.rd.next (by omega) q, below_next h.bel (Nat.le_refl _) _ q⟩

theorem of_kp (R L m c : Nat) (w0 w : World) (ob : Option Addr) (n cb : Nat) (p : Int) (f : Nat → Int) (g : Nat → ByteArray) (h : Kp R w0 w ob n cb p f) (hp : p ≤ 200) (hL : L ≠ R) (hm : 1 ≤ m) (hm2 : m ≤ 1000) (hg : ∀ i, i < m → w.cell? ⟨L, i, none⟩ = some (.string (g i))) (hgs : ∀ i, (g i).size ≤ 5) :
    Calls Try.prog 22 #[.pointer (some ⟨R, 0, none⟩), .slice (some ⟨L, 0, none⟩) m c] w fun e w' => ∃ t : ByteArray, e = .returned (.string t) ∧ t.size ≤ 5 ∧ Hid (Kp R w0 w' ob n cb (p + 1) f) := by
  refine (of_any R L m c ob n cb p f g w h.rd hL hm hm2 hg).mono ?_
  rintro e w' ⟨i, q, hi, rfl, rfl⟩
  exact ⟨g i, rfl, hgs i, h.rd.next (by omega) q, below_next h.bel (Nat.le_refl _) _ q⟩

theorem dec_k {k : Nat} (h : 0 < k) : Value.int .i64 ((k : Int) - 1) = .int .i64 ((k - 1 : Nat) : Int) := by
  rw [show ((k : Int) - 1) = ((k - 1 : Nat) : Int) from by omega]

theorem four_cells (w : World) (i : Nat) (hi : i < 4) : (w.alloc (.cells #[.string ⟨#[127]⟩, .string ⟨#[9]⟩, .string ⟨#[0]⟩, .string ⟨#[195, 169]⟩] 9)).cell? ⟨w.heap.size, i, none⟩ = some (.string (four i)) := by
  rcases (show i = 0 ∨ i = 1 ∨ i = 2 ∨ i = 3 by omega) with rfl | rfl | rfl | rfl <;> simp [four]
theorem five_cells (w : World) (i : Nat) (hi : i < 5) : (w.alloc (.cells #[.string ⟨#[118, 97, 108, 118, 101]⟩, .string ⟨#[97]⟩, .string ⟨#[49, 50]⟩, .string ⟨#[33]⟩, .string ⟨#[126]⟩] 9)).cell? ⟨w.heap.size, i, none⟩ = some (.string (five i)) := by
  rcases (show i = 0 ∨ i = 1 ∨ i = 2 ∨ i = 3 ∨ i = 4 by omega) with rfl | rfl | rfl | rfl | rfl <;> simp [five]

set_option maxRecDepth 100000 in
set_option maxHeartbeats 2000000 in
theorem draw_any (ob : Option Addr) (n cb : Nat) (f : Nat → Int) (w : World) (hn : n ≤ maxLen) (hnc : n ≤ cb) (fb : ∀ i, 0 ≤ f i ∧ f i ≤ 255)
    (ce : ∀ i, i < n → ∃ b off, ob = some ⟨b, off, none⟩ ∧ b < w.heap.size ∧ w.cell? ⟨b, off + i, none⟩ = some (.int .u8 (f i))) :
    Calls Try.prog 6 #[.slice ob n cb] w fun e w' => ∃ t : ByteArray, e = .returned (.string t) ∧ t.size ≤ 2000 ∧ Below w.heap.size w w' := by
  have HOP : Hid (1 ≤ n → ∃ a, ob = some a) := fun h => by obtain ⟨b, off, h1, _⟩ := ce 0 (by omega); exact ⟨_, h1⟩
  have HFB : Hid _ := fb
  have HCE : Hid _ := ce
  clear ce fb
  go_enter Try.func6, Try.ntmps6
  go_wp2_with fail
  refine (open_any ob n cb w hn hnc HOP.out).mono ?_
  rintro e w1 ⟨n', hn1, hn2, rfl, rfl⟩
  have hrd : Rd w.heap.size (w.alloc (.cells #[.slice ob n' cb, .int .i64 0] 78)) ob n' cb 0 f := by
    refine ⟨heap_alloc_new w _, hn1, by omega, by omega, HFB.out, fun i hi => ?_⟩
    obtain ⟨b, off, h1, h2, h3⟩ := HCE.out i (by omega)
    exact ⟨b, off, h1, h2, (World.cell?_of_block (w := w) (a := ⟨b, off + i, none⟩) (Below.heap_alloc w _ b h2)).trans h3⟩
  have hb1 : Below w.heap.size w (w.alloc (.cells #[.slice ob n' cb, .int .i64 0] 78)) := (Below.refl _ _).alloc (Nat.le_refl _) _
  have K0 : Hid (Kp w.heap.size w (w.alloc (.cells #[.slice ob n' cb, .int .i64 0] 78)) ob n' cb 0 f) := ⟨hrd, hb1⟩
  clear hrd hb1
  go_wp2_with fail
  refine (pick_kp _ w _ ob n' cb 0 19 f K0.out (by omega) (by omega) (by omega)).mono ?_
  rintro e w4 ⟨x, rfl, hx0, hx1, K1⟩
  obtain ⟨k0, rfl⟩ := Int.eq_ofNat_of_zero_le hx0
  clear K0
  go_wp2_with fail
  go_loopw [4, 5] (fun s4 s5 wr => ∃ (k : Nat) (u : ByteArray) (p : Int), s5 = .int .i64 k ∧ k ≤ 18 ∧ s4 = .string u ∧ u.size + 60 * k ≤ 1080 ∧ p + 4 * k ≤ 100 ∧ Hid (Kp w.heap.size w wr ob n' cb p f)) (fun _ i _ => (intOf i).toNat)
  case atStart => exact ⟨k0, ⟨#[]⟩, 0 + 1, rfl, by omega, rfl, by show 0 + 60 * k0 ≤ 1080; omega, by omega, K1⟩
  case round =>
    obtain ⟨k, u, p, rfl, hk, rfl, hu, hp, KR⟩ := hrel
    by_cases hpos : 0 < k
    · go_wp2_with fail
      refine (pick_kp _ w _ ob n' cb p 24 f KR.out (by omega) (by omega) (by omega)).mono ?_
      rintro e w5 ⟨y, rfl, hy0, hy1, K2⟩
      by_cases e0 : y = 0
      · subst e0
        have z1 : (⟨#[35]⟩ : ByteArray).size = 1 := rfl
        have hz : (u ++ (⟨#[35]⟩ : ByteArray)).size = u.size + 1 := by rw [ByteArray.size_append, z1]
        go_wp2_with fail
        refine (pick_kp _ w _ ob n' cb (p + 1) 3 f K2.out (by omega) (by omega) (by omega)).mono ?_
        rintro e w7 ⟨y3, rfl, a0, a1, K7⟩
        go_wp2_with fail
        refine (pick_kp _ w _ ob n' cb (p + 1 + 1) 2 f K7.out (by omega) (by omega) (by omega)).mono ?_
        rintro e w8 ⟨y4, rfl, b0, b1, K8⟩
        go_wp2_with fail
        refine (many_any _ _ _ rfl (by omega) (by omega)).mono ?_
        rintro e w9 ⟨t2, rfl, ht2, rfl⟩
        go_wp2_with fail
        go_roundw
        case rel =>
          refine ⟨k - 1, (u ++ (⟨#[35]⟩ : ByteArray)) ++ t2, p + 1 + 1 + 1, dec_k hpos, by omega, rfl, ?_, by omega, K8⟩
          rw [ByteArray.size_append, hz]; omega
        case measure => simp [intOf]; omega
      · have n0 : (y == 0) = false := by simpa using e0
        by_cases e1 : y = 1
        · subst e1
          go_wp2_with fail
          refine (of_kp _ w5.heap.size 4 4 w _ ob n' cb (p + 1) f four (K2.out.alloc _) (by omega) (by have := (Array.getElem?_eq_some_iff.1 K2.out.rd.at_).1; omega) (by omega) (by omega) (four_cells w5) four_le).mono ?_
          rintro e w6 ⟨t, rfl, ht, K3⟩
          have hz : (u ++ t).size = u.size + t.size := ByteArray.size_append
          go_wp2_with fail
          refine (pick_kp _ w _ ob n' cb (p + 1 + 1) 3 f K3.out (by omega) (by omega) (by omega)).mono ?_
          rintro e w7 ⟨y3, rfl, a0, a1, K7⟩
          go_wp2_with fail
          refine (pick_kp _ w _ ob n' cb (p + 1 + 1 + 1) 2 f K7.out (by omega) (by omega) (by omega)).mono ?_
          rintro e w8 ⟨y4, rfl, b0, b1, K8⟩
          go_wp2_with fail
          refine (many_any _ _ _ rfl (by omega) (by omega)).mono ?_
          rintro e w9 ⟨t2, rfl, ht2, rfl⟩
          go_wp2_with fail
          go_roundw
          case rel =>
            refine ⟨k - 1, (u ++ t) ++ t2, p + 1 + 1 + 1 + 1, dec_k hpos, by omega, rfl, ?_, by omega, K8⟩
            rw [ByteArray.size_append, hz]; omega
          case measure => simp [intOf]; omega
        · have n1 : (y == 1) = false := by simpa using e1
          by_cases e2 : y = 2
          · subst e2
            go_wp2_with fail
            refine (pick_kp _ w _ ob n' cb (p + 1) 2 f K2.out (by omega) (by omega) (by omega)).mono ?_
            rintro e w6 ⟨y2, rfl, c0, c1, K3⟩
            go_wp2_with fail
            refine (many_any _ _ _ rfl (by omega) (by omega)).mono ?_
            rintro e w6' ⟨t, rfl, ht, rfl⟩
            have hz : (u ++ t).size = u.size + t.size := ByteArray.size_append
            go_wp2_with fail
            refine (pick_kp _ w _ ob n' cb (p + 1 + 1) 3 f K3.out (by omega) (by omega) (by omega)).mono ?_
            rintro e w7 ⟨y3, rfl, a0, a1, K7⟩
            go_wp2_with fail
            refine (pick_kp _ w _ ob n' cb (p + 1 + 1 + 1) 2 f K7.out (by omega) (by omega) (by omega)).mono ?_
            rintro e w8 ⟨y4, rfl, b0, b1, K8⟩
            go_wp2_with fail
            refine (many_any _ _ _ rfl (by omega) (by omega)).mono ?_
            rintro e w9 ⟨t2, rfl, ht2, rfl⟩
            go_wp2_with fail
            go_roundw
            case rel =>
              refine ⟨k - 1, (u ++ t) ++ t2, p + 1 + 1 + 1 + 1, dec_k hpos, by omega, rfl, ?_, by omega, K8⟩
              rw [ByteArray.size_append, hz]; omega
            case measure => simp [intOf]; omega
          · have n2 : (y == 2) = false := by simpa using e2
            clear e0 e1 e2
            go_wp2_with fail
            refine (of_kp _ w5.heap.size 5 5 w _ ob n' cb (p + 1) f five (K2.out.alloc _) (by omega) (by have := (Array.getElem?_eq_some_iff.1 K2.out.rd.at_).1; omega) (by omega) (by omega) (five_cells w5) five_le).mono ?_
            rintro e w6 ⟨t, rfl, ht, K3⟩
            have hz : (u ++ t).size = u.size + t.size := ByteArray.size_append
            go_wp2_with fail
            refine (pick_kp _ w _ ob n' cb (p + 1 + 1) 3 f K3.out (by omega) (by omega) (by omega)).mono ?_
            rintro e w7 ⟨y3, rfl, a0, a1, K7⟩
            go_wp2_with fail
            refine (pick_kp _ w _ ob n' cb (p + 1 + 1 + 1) 2 f K7.out (by omega) (by omega) (by omega)).mono ?_
            rintro e w8 ⟨y4, rfl, b0, b1, K8⟩
            go_wp2_with fail
            refine (many_any _ _ _ rfl (by omega) (by omega)).mono ?_
            rintro e w9 ⟨t2, rfl, ht2, rfl⟩
            go_wp2_with fail
            go_roundw
            case rel =>
              refine ⟨k - 1, (u ++ t) ++ t2, p + 1 + 1 + 1 + 1, dec_k hpos, by omega, rfl, ?_, by omega, K8⟩
              rw [ByteArray.size_append, hz]; omega
            case measure => simp [intOf]; omega
    · go_wp2_with fail
      go_ret
      exact ⟨u, rfl, by omega, KR.out.bel⟩

end Go.Proofs.Ytbdhlcfcmennjaa
