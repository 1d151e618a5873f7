/-
  Contracts of the laws' own measure of data.
-/
import Derived.Test.YticojnepejboaacGreatCba
import Derived.Test.YticojnepejboaacGreatCws
namespace Go.Proofs.YticojnepejboaacGreat
open Go.RowKit

set_option maxRecDepth 100000 in
set_option maxHeartbeats 4000000 in
theorem szClaimFoe_any (S : Nat → Prop) (a : DClaimFoe) (c : Nat → Value) (x : Int) (w : World) (h : Lay.At S w a c) (_hS : ∀ b, S b → b < w.heap.size) (h0 : 0 ≤ x) (h1 : x ≤ 1048576) :
    Calls Tryz.prog 37 #[.agg #[c 0, c 1], .int .i64 x] w fun e w' => ∃ y : Int, e = .returned (.int .i64 y) ∧ (y < 0 ∨ y + (Lay.tot a : Int) = x) ∧ Below w.heap.size w w' := by
  rw [tot_DClaimFoe]
  rw [at_DClaimFoe] at h
  obtain ⟨⟨e0, z0⟩, ⟨e1, z1⟩⟩ := h
  rw [e0, e1]
  clear e0 e1
  unfold maxLen at z0
  unfold maxLen at z1
  have b0 : Hid (Below w.heap.size w (w.alloc (.cells #[.string a.1, .string a.2] 68))) := (Below.refl _ _).alloc (Nat.le_refl _) _
  go_enter Tryz.func37, Tryz.ntmps37
  by_cases n0 : x < (a.1.size : Int)
  · go_wp2_with fail
    go_ret
    exact ⟨_, rfl, Or.inl (by omega), b0.out⟩
  · have _u := trivial
    by_cases n1 : (x - (a.1.size : Int)) < (a.2.size : Int)
    · go_wp2_with fail
      go_ret
      exact ⟨_, rfl, Or.inl (by omega), b0.out⟩
    · have _u := trivial
      go_wp2_with fail
      go_ret
      exact ⟨_, rfl, Or.inr (by omega), b0.out⟩

set_option maxRecDepth 100000 in
set_option maxHeartbeats 4000000 in
theorem szClaimSpot_any (S : Nat → Prop) (a : DClaimSpot) (c : Nat → Value) (x : Int) (w : World) (h : Lay.At S w a c) (hS : ∀ b, S b → b < w.heap.size) (h0 : 0 ≤ x) (h1 : x ≤ 1048576) :
    Calls Tryz.prog 38 #[.agg #[c 0, c 1, c 2, c 3, c 4], .int .i64 x] w fun e w' => ∃ y : Int, e = .returned (.int .i64 y) ∧ (y < 0 ∨ y + (Lay.tot a : Int) = x) ∧ Below w.heap.size w w' := by
  rw [tot_DClaimSpot]
  rw [at_DClaimSpot] at h
  obtain ⟨⟨e0, z0⟩, ⟨e1, z1, y1⟩, ⟨e2, z2, y2⟩, ⟨e3, z3, y3⟩, H4⟩ := h
  obtain ⟨v4, e4⟩ : ∃ v, c 4 = v := ⟨_, rfl⟩
  rw [e4] at H4
  rw [e0, e1, e2, e3, e4]
  clear e0 e1 e2 e3 e4
  unfold maxLen at z0
  have b0 : Hid (Below w.heap.size w (w.alloc (.cells #[.string a.1, .int .i64 a.2.1, .int .i64 a.2.2.1, .int .i64 a.2.2.2.1, v4] 71))) := (Below.refl _ _).alloc (Nat.le_refl _) _
  go_enter Tryz.func38, Tryz.ntmps38
  by_cases n0 : x < (a.1.size : Int)
  · go_wp2_with fail
    go_ret
    exact ⟨_, rfl, Or.inl (by omega), b0.out⟩
  · have _u := trivial
    go_wp2_with fail
    refine (szStringS_any S _ v4 _ _ (H4.same (Same.of_below b0.out hS)) (fun b hb => by have := hS b hb; have := b0.out.size; omega) (by omega) (by omega)).mono ?_
    rintro e w1 ⟨y4, rfl, t4, u1⟩
    have b1 : Hid (Below w.heap.size w w1) := b0.out.trans (u1.mono b0.out.size)
    have s1 : w.heap.size < w1.heap.size := by have := u1.size; simp at this; omega
    by_cases n4 : y4 < 0
    · go_wp2_with fail
      go_ret
      exact ⟨_, rfl, Or.inl (by omega), b1.out⟩
    · have _u := trivial
      go_wp2_with fail
      go_ret
      exact ⟨_, rfl, Or.inr (by omega), b1.out⟩

set_option maxRecDepth 100000 in
set_option maxHeartbeats 4000000 in
theorem szClaimPart_any (S : Nat → Prop) (a : DClaimPart) (c : Nat → Value) (x : Int) (w : World) (h : Lay.At S w a c) (hS : ∀ b, S b → b < w.heap.size) (h0 : 0 ≤ x) (h1 : x ≤ 1048576) :
    Calls Tryz.prog 39 #[.agg #[c 0, c 1, c 2, c 3, c 4, c 5, c 6], .int .i64 x] w fun e w' => ∃ y : Int, e = .returned (.int .i64 y) ∧ (y < 0 ∨ y + (Lay.tot a : Int) = x) ∧ Below w.heap.size w w' := by
  rw [tot_DClaimPart]
  rw [at_DClaimPart] at h
  obtain ⟨⟨e0, z0, y0⟩, ⟨e1, z1, y1⟩, H2, H3, H4, H5, e6⟩ := h
  obtain ⟨v2, e2⟩ : ∃ v, c 2 = v := ⟨_, rfl⟩
  rw [e2] at H2
  obtain ⟨v3, e3⟩ : ∃ v, c 3 = v := ⟨_, rfl⟩
  rw [e3] at H3
  obtain ⟨v4, e4⟩ : ∃ v, c 4 = v := ⟨_, rfl⟩
  rw [e4] at H4
  obtain ⟨v5, e5⟩ : ∃ v, c 5 = v := ⟨_, rfl⟩
  rw [e5] at H5
  rw [e0, e1, e2, e3, e4, e5, e6]
  clear e0 e1 e2 e3 e4 e5 e6
  have b0 : Hid (Below w.heap.size w (w.alloc (.cells #[.int .i64 a.1, .int .i64 a.2.1, v2, v3, v4, v5, .bool a.2.2.2.2.2.2] 77))) := (Below.refl _ _).alloc (Nat.le_refl _) _
  have HI : Hid (Lay.At S (w.alloc (.cells #[.int .i64 a.1, .int .i64 a.2.1, v2, v3, v4, v5, .bool a.2.2.2.2.2.2] 77)) ((a.1, a.2.1, a.2.2.1, a.2.2.2.1, a.2.2.2.2.1, a.2.2.2.2.2.1) : DClaimWant) (cs [.int .i64 a.1, .int .i64 a.2.1, v2, v3, v4, v5])) := at_DClaimWant.2 ⟨⟨rfl, z0, y0⟩, ⟨rfl, z1, y1⟩, H2.same (Same.of_below b0.out hS), H3.same (Same.of_below b0.out hS), H4.same (Same.of_below b0.out hS), H5.same (Same.of_below b0.out hS)⟩
  go_enter Tryz.func39, Tryz.ntmps39
  go_wp2_with fail
  refine (szClaimWant_any S _ (cs [.int .i64 a.1, .int .i64 a.2.1, v2, v3, v4, v5]) _ _ HI.out (fun b hb => by have := hS b hb; have := b0.out.size; omega) h0 h1).mono ?_
  rintro e w1 ⟨y, rfl, t, u1⟩
  rw [tot_DClaimWant] at t
  have b1 : Hid (Below w.heap.size w w1) := b0.out.trans (u1.mono b0.out.size)
  by_cases n : y < 0
  · go_wp2_with fail
    go_ret
    exact ⟨_, rfl, Or.inl (by omega), b1.out⟩
  · go_wp2_with fail
    go_ret
    exact ⟨_, rfl, Or.inr (by omega), b1.out⟩

set_option maxRecDepth 100000 in
set_option maxHeartbeats 4000000 in
theorem szClaimFoeS_any (S : Nat → Prop) (l : List DClaimFoe) (v : Value) (x : Int) (w : World) (h : AtL S w l v) (hS : ∀ b, S b → b < w.heap.size) (h0 : 0 ≤ x) (h1 : x ≤ 1048576) :
    Calls Tryz.prog 11 #[v, .int .i64 x] w fun e w' => ∃ y : Int, e = .returned (.int .i64 y) ∧ (y < 0 ∨ y + (totL l : Int) = x) ∧ Below w.heap.size w w' := by
  obtain ⟨oa, cap, rfl, hn, hc⟩ := h
  have ht : totL l = l.length + sumTo l l.length := rfl
  obtain ⟨n, en⟩ : ∃ n, l.length = n := ⟨_, rfl⟩
  rw [en] at ht hn
  rw [en]
  unfold maxLen at hn
  have HC : Hid _ := hc
  clear hc
  have HT : Hid _ := ht
  clear ht
  by_cases hx : (n : Int) ≤ x
  · go_enter Tryz.func11, Tryz.ntmps11
    go_wp2
    go_loopw [1, 5] (fun q i wr => ∃ (k : Nat) (y : Int), k ≤ n ∧ i = .int .i64 k ∧ q = .int .i64 y ∧ 0 ≤ y ∧ y ≤ x ∧ Hid (y + ((n + sumTo l k : Nat) : Int) = x) ∧ Hid (Below w.heap.size w wr)) (fun _ i _ => n - (intOf i).toNat)
    case atStart => exact ⟨0, _, Nat.zero_le _, rfl, rfl, by omega, by omega, by rw [sumTo_zero]; show _ = _; omega, Below.refl _ _⟩
    case round =>
      obtain ⟨k, y, hk, rfl, rfl, hy0, hy1, hsum, hbel⟩ := hrel
      have hs := hbel.out.size
      by_cases hlt : k < n
      · obtain ⟨b, off, rfl, hbS, cc, hcell, hat⟩ := HC.out k (by omega)
        have hb := hS b hbS
        have hsu := sumTo_succ l k (by omega)
        rw [width_DClaimFoe] at hcell
        have e0 : wr.cell? ⟨b, off + k * 2, none⟩ = some (cc 0) := (hbel.out.cell (p := ⟨b, off + k * 2, none⟩) (by show b < _; omega)).trans (by simpa using hcell 0 (by omega))
        have e1 : wr.cell? ⟨b, off + k * 2 + 1, none⟩ = some (cc 1) := (hbel.out.cell (p := ⟨b, off + k * 2 + 1, none⟩) (by show b < _; omega)).trans (by simpa using hcell 1 (by omega))
        clear hcell
        have HSU : Hid _ := hsu
        clear hsu
        have HAT : Hid _ := hat
        clear hat
        go_wp2_with fail
        refine (szClaimFoe_any S _ cc _ _ (Lay.same HAT.out (Same.of_below hbel.out hS)) (fun b hb => by have := hS b hb; omega) hy0 (by omega)).mono ?_
        rintro e u ⟨z, rfl, hz1, hbu⟩
        by_cases hneg : z < 0
        · go_wp2_with fail
          go_ret
          exact ⟨_, rfl, Or.inl (by omega), hbel.out.trans (hbu.mono hs)⟩
        · go_wp2_with fail
          go_roundw
          case rel => exact ⟨k + 1, z, by omega, by go_num, rfl, by omega, by omega, by rw [HSU.out]; have := hsum.out; show _ = _; omega, hbel.out.trans (hbu.mono hs)⟩
          case measure => simp [intOf]; omega
      · have hkn : k = n := by omega
        subst hkn
        go_wp2
        go_ret
        exact ⟨y, rfl, Or.inr (by have := hsum.out; rw [HT.out]; omega), hbel.out⟩
  · go_enter Tryz.func11, Tryz.ntmps11
    go_wp2
    go_ret
    exact ⟨-1, rfl, Or.inl (by omega), Below.refl _ _⟩

set_option maxRecDepth 100000 in
set_option maxHeartbeats 4000000 in
theorem szClaimSpotS_any (S : Nat → Prop) (l : List DClaimSpot) (v : Value) (x : Int) (w : World) (h : AtL S w l v) (hS : ∀ b, S b → b < w.heap.size) (h0 : 0 ≤ x) (h1 : x ≤ 1048576) :
    Calls Tryz.prog 12 #[v, .int .i64 x] w fun e w' => ∃ y : Int, e = .returned (.int .i64 y) ∧ (y < 0 ∨ y + (totL l : Int) = x) ∧ Below w.heap.size w w' := by
  obtain ⟨oa, cap, rfl, hn, hc⟩ := h
  have ht : totL l = l.length + sumTo l l.length := rfl
  obtain ⟨n, en⟩ : ∃ n, l.length = n := ⟨_, rfl⟩
  rw [en] at ht hn
  rw [en]
  unfold maxLen at hn
  have HC : Hid _ := hc
  clear hc
  have HT : Hid _ := ht
  clear ht
  by_cases hx : (n : Int) ≤ x
  · go_enter Tryz.func12, Tryz.ntmps12
    go_wp2
    go_loopw [1, 5] (fun q i wr => ∃ (k : Nat) (y : Int), k ≤ n ∧ i = .int .i64 k ∧ q = .int .i64 y ∧ 0 ≤ y ∧ y ≤ x ∧ Hid (y + ((n + sumTo l k : Nat) : Int) = x) ∧ Hid (Below w.heap.size w wr)) (fun _ i _ => n - (intOf i).toNat)
    case atStart => exact ⟨0, _, Nat.zero_le _, rfl, rfl, by omega, by omega, by rw [sumTo_zero]; show _ = _; omega, Below.refl _ _⟩
    case round =>
      obtain ⟨k, y, hk, rfl, rfl, hy0, hy1, hsum, hbel⟩ := hrel
      have hs := hbel.out.size
      by_cases hlt : k < n
      · obtain ⟨b, off, rfl, hbS, cc, hcell, hat⟩ := HC.out k (by omega)
        have hb := hS b hbS
        have hsu := sumTo_succ l k (by omega)
        rw [width_DClaimSpot] at hcell
        have e0 : wr.cell? ⟨b, off + k * 5, none⟩ = some (cc 0) := (hbel.out.cell (p := ⟨b, off + k * 5, none⟩) (by show b < _; omega)).trans (by simpa using hcell 0 (by omega))
        have e1 : wr.cell? ⟨b, off + k * 5 + 1, none⟩ = some (cc 1) := (hbel.out.cell (p := ⟨b, off + k * 5 + 1, none⟩) (by show b < _; omega)).trans (by simpa using hcell 1 (by omega))
        have e2 : wr.cell? ⟨b, off + k * 5 + 2, none⟩ = some (cc 2) := (hbel.out.cell (p := ⟨b, off + k * 5 + 2, none⟩) (by show b < _; omega)).trans (by simpa using hcell 2 (by omega))
        have e3 : wr.cell? ⟨b, off + k * 5 + 3, none⟩ = some (cc 3) := (hbel.out.cell (p := ⟨b, off + k * 5 + 3, none⟩) (by show b < _; omega)).trans (by simpa using hcell 3 (by omega))
        have e4 : wr.cell? ⟨b, off + k * 5 + 4, none⟩ = some (cc 4) := (hbel.out.cell (p := ⟨b, off + k * 5 + 4, none⟩) (by show b < _; omega)).trans (by simpa using hcell 4 (by omega))
        clear hcell
        have HSU : Hid _ := hsu
        clear hsu
        have HAT : Hid _ := hat
        clear hat
        go_wp2_with fail
        refine (szClaimSpot_any S _ cc _ _ (Lay.same HAT.out (Same.of_below hbel.out hS)) (fun b hb => by have := hS b hb; omega) hy0 (by omega)).mono ?_
        rintro e u ⟨z, rfl, hz1, hbu⟩
        by_cases hneg : z < 0
        · go_wp2_with fail
          go_ret
          exact ⟨_, rfl, Or.inl (by omega), hbel.out.trans (hbu.mono hs)⟩
        · go_wp2_with fail
          go_roundw
          case rel => exact ⟨k + 1, z, by omega, by go_num, rfl, by omega, by omega, by rw [HSU.out]; have := hsum.out; show _ = _; omega, hbel.out.trans (hbu.mono hs)⟩
          case measure => simp [intOf]; omega
      · have hkn : k = n := by omega
        subst hkn
        go_wp2
        go_ret
        exact ⟨y, rfl, Or.inr (by have := hsum.out; rw [HT.out]; omega), hbel.out⟩
  · go_enter Tryz.func12, Tryz.ntmps12
    go_wp2
    go_ret
    exact ⟨-1, rfl, Or.inl (by omega), Below.refl _ _⟩

set_option maxRecDepth 100000 in
set_option maxHeartbeats 4000000 in
theorem szClaimPartS_any (S : Nat → Prop) (l : List DClaimPart) (v : Value) (x : Int) (w : World) (h : AtL S w l v) (hS : ∀ b, S b → b < w.heap.size) (h0 : 0 ≤ x) (h1 : x ≤ 1048576) :
    Calls Tryz.prog 14 #[v, .int .i64 x] w fun e w' => ∃ y : Int, e = .returned (.int .i64 y) ∧ (y < 0 ∨ y + (totL l : Int) = x) ∧ Below w.heap.size w w' := by
  obtain ⟨oa, cap, rfl, hn, hc⟩ := h
  have ht : totL l = l.length + sumTo l l.length := rfl
  obtain ⟨n, en⟩ : ∃ n, l.length = n := ⟨_, rfl⟩
  rw [en] at ht hn
  rw [en]
  unfold maxLen at hn
  have HC : Hid _ := hc
  clear hc
  have HT : Hid _ := ht
  clear ht
  by_cases hx : (n : Int) ≤ x
  · go_enter Tryz.func14, Tryz.ntmps14
    go_wp2
    go_loopw [1, 5] (fun q i wr => ∃ (k : Nat) (y : Int), k ≤ n ∧ i = .int .i64 k ∧ q = .int .i64 y ∧ 0 ≤ y ∧ y ≤ x ∧ Hid (y + ((n + sumTo l k : Nat) : Int) = x) ∧ Hid (Below w.heap.size w wr)) (fun _ i _ => n - (intOf i).toNat)
    case atStart => exact ⟨0, _, Nat.zero_le _, rfl, rfl, by omega, by omega, by rw [sumTo_zero]; show _ = _; omega, Below.refl _ _⟩
    case round =>
      obtain ⟨k, y, hk, rfl, rfl, hy0, hy1, hsum, hbel⟩ := hrel
      have hs := hbel.out.size
      by_cases hlt : k < n
      · obtain ⟨b, off, rfl, hbS, cc, hcell, hat⟩ := HC.out k (by omega)
        have hb := hS b hbS
        have hsu := sumTo_succ l k (by omega)
        rw [width_DClaimPart] at hcell
        have e0 : wr.cell? ⟨b, off + k * 7, none⟩ = some (cc 0) := (hbel.out.cell (p := ⟨b, off + k * 7, none⟩) (by show b < _; omega)).trans (by simpa using hcell 0 (by omega))
        have e1 : wr.cell? ⟨b, off + k * 7 + 1, none⟩ = some (cc 1) := (hbel.out.cell (p := ⟨b, off + k * 7 + 1, none⟩) (by show b < _; omega)).trans (by simpa using hcell 1 (by omega))
        have e2 : wr.cell? ⟨b, off + k * 7 + 2, none⟩ = some (cc 2) := (hbel.out.cell (p := ⟨b, off + k * 7 + 2, none⟩) (by show b < _; omega)).trans (by simpa using hcell 2 (by omega))
        have e3 : wr.cell? ⟨b, off + k * 7 + 3, none⟩ = some (cc 3) := (hbel.out.cell (p := ⟨b, off + k * 7 + 3, none⟩) (by show b < _; omega)).trans (by simpa using hcell 3 (by omega))
        have e4 : wr.cell? ⟨b, off + k * 7 + 4, none⟩ = some (cc 4) := (hbel.out.cell (p := ⟨b, off + k * 7 + 4, none⟩) (by show b < _; omega)).trans (by simpa using hcell 4 (by omega))
        have e5 : wr.cell? ⟨b, off + k * 7 + 5, none⟩ = some (cc 5) := (hbel.out.cell (p := ⟨b, off + k * 7 + 5, none⟩) (by show b < _; omega)).trans (by simpa using hcell 5 (by omega))
        have e6 : wr.cell? ⟨b, off + k * 7 + 6, none⟩ = some (cc 6) := (hbel.out.cell (p := ⟨b, off + k * 7 + 6, none⟩) (by show b < _; omega)).trans (by simpa using hcell 6 (by omega))
        clear hcell
        have HSU : Hid _ := hsu
        clear hsu
        have HAT : Hid _ := hat
        clear hat
        go_wp2_with fail
        refine (szClaimPart_any S _ cc _ _ (Lay.same HAT.out (Same.of_below hbel.out hS)) (fun b hb => by have := hS b hb; omega) hy0 (by omega)).mono ?_
        rintro e u ⟨z, rfl, hz1, hbu⟩
        by_cases hneg : z < 0
        · go_wp2_with fail
          go_ret
          exact ⟨_, rfl, Or.inl (by omega), hbel.out.trans (hbu.mono hs)⟩
        · go_wp2_with fail
          go_roundw
          case rel => exact ⟨k + 1, z, by omega, by go_num, rfl, by omega, by omega, by rw [HSU.out]; have := hsum.out; show _ = _; omega, hbel.out.trans (hbu.mono hs)⟩
          case measure => simp [intOf]; omega
      · have hkn : k = n := by omega
        subst hkn
        go_wp2
        go_ret
        exact ⟨y, rfl, Or.inr (by have := hsum.out; rw [HT.out]; omega), hbel.out⟩
  · go_enter Tryz.func14, Tryz.ntmps14
    go_wp2
    go_ret
    exact ⟨-1, rfl, Or.inl (by omega), Below.refl _ _⟩

set_option maxRecDepth 100000 in
set_option maxHeartbeats 4000000 in
theorem szClaimBook_any (S : Nat → Prop) (a : DClaimBook) (c : Nat → Value) (x : Int) (w : World) (h : Lay.At S w a c) (hS : ∀ b, S b → b < w.heap.size) (h0 : 0 ≤ x) (h1 : x ≤ 1048576) :
    Calls Tryz.prog 4 #[.agg #[c 0, c 1, c 2, c 3, c 4], .int .i64 x] w fun e w' => ∃ y : Int, e = .returned (.int .i64 y) ∧ (y < 0 ∨ y + (Lay.tot a : Int) = x) ∧ Below w.heap.size w w' := by
  rw [tot_DClaimBook]
  rw [at_DClaimBook] at h
  obtain ⟨H0, H1, H2, H3, ⟨e4, z4, y4⟩⟩ := h
  obtain ⟨v0, e0⟩ : ∃ v, c 0 = v := ⟨_, rfl⟩
  rw [e0] at H0
  obtain ⟨v1, e1⟩ : ∃ v, c 1 = v := ⟨_, rfl⟩
  rw [e1] at H1
  obtain ⟨v2, e2⟩ : ∃ v, c 2 = v := ⟨_, rfl⟩
  rw [e2] at H2
  obtain ⟨v3, e3⟩ : ∃ v, c 3 = v := ⟨_, rfl⟩
  rw [e3] at H3
  rw [e0, e1, e2, e3, e4]
  clear e0 e1 e2 e3 e4
  have b0 : Hid (Below w.heap.size w (w.alloc (.cells #[v0, v1, v2, v3, .int .i64 a.2.2.2.2] 27))) := (Below.refl _ _).alloc (Nat.le_refl _) _
  go_enter Tryz.func4, Tryz.ntmps4
  go_wp2_with fail
  refine (szClaimFoeS_any S _ v0 _ _ (H0.same (Same.of_below b0.out hS)) (fun b hb => by have := hS b hb; have := b0.out.size; omega) (by omega) (by omega)).mono ?_
  rintro e w1 ⟨y0, rfl, t0, u1⟩
  have b1 : Hid (Below w.heap.size w w1) := b0.out.trans (u1.mono b0.out.size)
  have x1_1 : w1.cell? ⟨w.heap.size, 1, none⟩ = some (v1) := (u1.cell (p := ⟨w.heap.size, 1, none⟩) (by simp)).trans (by simp)
  have x1_2 : w1.cell? ⟨w.heap.size, 2, none⟩ = some (v2) := (u1.cell (p := ⟨w.heap.size, 2, none⟩) (by simp)).trans (by simp)
  have x1_3 : w1.cell? ⟨w.heap.size, 3, none⟩ = some (v3) := (u1.cell (p := ⟨w.heap.size, 3, none⟩) (by simp)).trans (by simp)
  have s1 : w.heap.size < w1.heap.size := by have := u1.size; simp at this; omega
  by_cases n0 : y0 < 0
  · go_wp2_with fail
    go_ret
    exact ⟨_, rfl, Or.inl (by omega), b1.out⟩
  · have _u := trivial
    go_wp2_with fail
    refine (szClaimSpotS_any S _ v1 _ _ (H1.same (Same.of_below b1.out hS)) (fun b hb => by have := hS b hb; have := b1.out.size; omega) (by omega) (by omega)).mono ?_
    rintro e w2 ⟨y1, rfl, t1, u2⟩
    have b2 : Hid (Below w.heap.size w w2) := b1.out.trans (u2.mono b1.out.size)
    have x2_2 : w2.cell? ⟨w.heap.size, 2, none⟩ = some (v2) := (u2.cell (p := ⟨w.heap.size, 2, none⟩) (by show w.heap.size < _; omega)).trans x1_2
    have x2_3 : w2.cell? ⟨w.heap.size, 3, none⟩ = some (v3) := (u2.cell (p := ⟨w.heap.size, 3, none⟩) (by show w.heap.size < _; omega)).trans x1_3
    have s2 : w.heap.size < w2.heap.size := by have := u2.size; omega
    by_cases n1 : y1 < 0
    · go_wp2_with fail
      go_ret
      exact ⟨_, rfl, Or.inl (by omega), b2.out⟩
    · have _u := trivial
      go_wp2_with fail
      refine (szStringS_any S _ v2 _ _ (H2.same (Same.of_below b2.out hS)) (fun b hb => by have := hS b hb; have := b2.out.size; omega) (by omega) (by omega)).mono ?_
      rintro e w3 ⟨y2, rfl, t2, u3⟩
      have b3 : Hid (Below w.heap.size w w3) := b2.out.trans (u3.mono b2.out.size)
      have x3_3 : w3.cell? ⟨w.heap.size, 3, none⟩ = some (v3) := (u3.cell (p := ⟨w.heap.size, 3, none⟩) (by show w.heap.size < _; omega)).trans x2_3
      have s3 : w.heap.size < w3.heap.size := by have := u3.size; omega
      by_cases n2 : y2 < 0
      · go_wp2_with fail
        go_ret
        exact ⟨_, rfl, Or.inl (by omega), b3.out⟩
      · have _u := trivial
        go_wp2_with fail
        refine (szClaimPartS_any S _ v3 _ _ (H3.same (Same.of_below b3.out hS)) (fun b hb => by have := hS b hb; have := b3.out.size; omega) (by omega) (by omega)).mono ?_
        rintro e w4 ⟨y3, rfl, t3, u4⟩
        have b4 : Hid (Below w.heap.size w w4) := b3.out.trans (u4.mono b3.out.size)
        have s4 : w.heap.size < w4.heap.size := by have := u4.size; omega
        by_cases n3 : y3 < 0
        · go_wp2_with fail
          go_ret
          exact ⟨_, rfl, Or.inl (by omega), b4.out⟩
        · have _u := trivial
          go_wp2_with fail
          go_ret
          exact ⟨_, rfl, Or.inr (by omega), b4.out⟩

end Go.Proofs.YticojnepejboaacGreat
