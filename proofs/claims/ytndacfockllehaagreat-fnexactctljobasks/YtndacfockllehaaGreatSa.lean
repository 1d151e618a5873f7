/-
  Contracts of the law's own measure of a plant: what is left is at most what there was, and where anything is left each list is short.
-/
import Derived.Test.YtndacfockllehaaGreatM6
namespace Go.Proofs.YtndacfockllehaaGreat
open Go.RowKit

set_option maxRecDepth 100000 in
set_option maxHeartbeats 1000000 in
theorem szS_any (B : Nat) (v : Value) (n : Nat) (f : Nat → ByteArray) (x : Int) (w : World) (h : Lst B w v n 1 (cS f)) (hz : ∀ i, i < n → (f i).size ≤ maxLen) (h0 : 0 ≤ x) (h1 : x ≤ 1048576) :
    Calls Tryz.prog 17 #[v, .int .i64 x] w fun e w' => ∃ y, e = .returned (.int .i64 y) ∧ y ≤ x ∧ (0 ≤ y → n ≤ 1048576) ∧ Below w.heap.size w w' := by
  obtain ⟨oa, cap, rfl, hn, hc⟩ := h
  unfold maxLen at hn hz
  have HC : Hid _ := hc
  have HZ : Hid _ := hz
  clear hc hz
  by_cases hx : (n : Int) ≤ x
  · go_enter Tryz.func17, Tryz.ntmps17
    go_wp2
    go_loop [1, 5] (fun l i => ∃ (k : Nat) (y : Int), k ≤ n ∧ i = .int .i64 k ∧ l = .int .i64 y ∧ 0 ≤ y ∧ y ≤ x) (fun _ i => n - (intOf i).toNat)
    case atStart => exact ⟨0, _, Nat.zero_le _, rfl, rfl, by omega, by omega⟩
    case round =>
      obtain ⟨k, y, hk, rfl, rfl, hy0, hy1⟩ := hrel
      by_cases hlt : k < n
      · obtain ⟨b, off, rfl, _, hcell⟩ := HC.out k hlt
        have hcell := hcell 0 (by omega)
        rw [Nat.mul_one, Nat.add_zero] at hcell
        simp only [cS] at hcell
        have hzk := HZ.out k hlt
        by_cases hs : ((f k).size : Int) ≤ y
        · go_wp2
          go_round
          case rel => exact ⟨k + 1, _, by omega, by go_num, rfl, by omega, by omega⟩
          case measure => simp [intOf]; omega
        · go_wp2
          go_ret
          exact ⟨-1, rfl, by omega, fun h => by omega, Below.refl _ _⟩
      · go_wp2
        go_ret
        exact ⟨y, rfl, hy1, fun _ => by omega, Below.refl _ _⟩
  · go_enter Tryz.func17, Tryz.ntmps17
    go_wp2
    go_ret
    exact ⟨-1, rfl, by omega, fun h => by omega, Below.refl _ _⟩

set_option maxRecDepth 100000 in
set_option maxHeartbeats 1000000 in
theorem szFoe_any (a b : ByteArray) (x : Int) (w : World) (ha : a.size ≤ maxLen) (hb : b.size ≤ maxLen) (h0 : 0 ≤ x) (h1 : x ≤ 1048576) :
    Calls Tryz.prog 46 #[.agg #[.string a, .string b], .int .i64 x] w fun e w' => ∃ y, e = .returned (.int .i64 y) ∧ y ≤ x ∧ Below w.heap.size w w' := by
  unfold maxLen at *
  go_enter Tryz.func46, Tryz.ntmps46
  go_wp2
  all_goals
    go_ret
    exact ⟨_, rfl, by omega, (Below.refl _ _).alloc (Nat.le_refl _) _⟩

set_option maxRecDepth 100000 in
set_option maxHeartbeats 1000000 in
theorem szPlace_any (a b : ByteArray) (c : Int) (x : Int) (w : World) (ha : a.size ≤ maxLen) (hb : b.size ≤ maxLen) (h0 : 0 ≤ x) (h1 : x ≤ 1048576) :
    Calls Tryz.prog 47 #[.agg #[.string a, .int .i64 c, .string b], .int .i64 x] w fun e w' => ∃ y, e = .returned (.int .i64 y) ∧ y ≤ x ∧ Below w.heap.size w w' := by
  unfold maxLen at *
  go_enter Tryz.func47, Tryz.ntmps47
  go_wp2
  all_goals
    go_ret
    exact ⟨_, rfl, by omega, (Below.refl _ _).alloc (Nat.le_refl _) _⟩

set_option maxRecDepth 100000 in
set_option maxHeartbeats 1000000 in
theorem szValve_any (a b c d : ByteArray) (x : Int) (w : World) (ha : a.size ≤ maxLen) (hb : b.size ≤ maxLen) (hc : c.size ≤ maxLen) (hd : d.size ≤ maxLen) (h0 : 0 ≤ x) (h1 : x ≤ 1048576) :
    Calls Tryz.prog 48 #[.agg #[.string a, .string b, .string c, .string d], .int .i64 x] w fun e w' => ∃ y, e = .returned (.int .i64 y) ∧ y ≤ x ∧ Below w.heap.size w w' := by
  unfold maxLen at *
  go_enter Tryz.func48, Tryz.ntmps48
  go_wp2
  all_goals
    go_ret
    exact ⟨_, rfl, by omega, (Below.refl _ _).alloc (Nat.le_refl _) _⟩

set_option maxRecDepth 100000 in
set_option maxHeartbeats 2000000 in
theorem szF_any (B : Nat) (v : Value) (n : Nat) (f : Nat → ByteArray × ByteArray) (x : Int) (w : World) (h : Lst B w v n 2 (cF f)) (hB : B ≤ w.heap.size) (hz : ∀ i, i < n → (f i).1.size ≤ maxLen ∧ (f i).2.size ≤ maxLen) (h0 : 0 ≤ x) (h1 : x ≤ 1048576) :
    Calls Tryz.prog 18 #[v, .int .i64 x] w fun e w' => ∃ y, e = .returned (.int .i64 y) ∧ y ≤ x ∧ (0 ≤ y → n ≤ 1048576) ∧ Below w.heap.size w w' := by
  obtain ⟨oa, cap, rfl, hn, hc⟩ := h
  unfold maxLen at hn
  have HC : Hid _ := hc
  have HZ : Hid _ := hz
  clear hc hz
  by_cases hx : (n : Int) ≤ x
  · go_enter Tryz.func18, Tryz.ntmps18
    go_wp2
    go_loopw [1, 5] (fun l i wr => ∃ (k : Nat) (y : Int), k ≤ n ∧ i = .int .i64 k ∧ l = .int .i64 y ∧ 0 ≤ y ∧ y ≤ x ∧ Hid (Below w.heap.size w wr)) (fun _ i _ => n - (intOf i).toNat)
    case atStart => exact ⟨0, _, Nat.zero_le _, rfl, rfl, by omega, by omega, Below.refl _ _⟩
    case round =>
      obtain ⟨k, y, hk, rfl, rfl, hy0, hy1, hbel⟩ := hrel
      have hs := hbel.out.size
      by_cases hlt : k < n
      · obtain ⟨b, off, rfl, hbB, hcell⟩ := HC.out k hlt
        have HZK : Hid _ := HZ.out k hlt
        have e0 : wr.cell? ⟨b, off + k * 2, none⟩ = some (.string (f k).1) := (hbel.out.cell (p := ⟨b, off + k * 2, none⟩) (by show b < _; omega)).trans (by simpa [cF] using hcell 0 (by omega))
        have e1 : wr.cell? ⟨b, off + k * 2 + 1, none⟩ = some (.string (f k).2) := (hbel.out.cell (p := ⟨b, off + k * 2 + 1, none⟩) (by show b < _; omega)).trans (by simpa [cF] using hcell 1 (by omega))
        go_wp2_with fail
        refine (szFoe_any _ _ _ _ HZK.out.1 HZK.out.2 hy0 (by omega)).mono ?_; rintro e u ⟨z, rfl, hz1, hbu⟩
        by_cases hneg : z < 0
        · go_wp2_with fail
          go_ret
          exact ⟨_, rfl, by omega, fun h => by omega, hbel.out.trans (hbu.mono hs)⟩
        · go_wp2_with fail
          go_roundw
          case rel => exact ⟨k + 1, z, by omega, by go_num, rfl, by omega, by omega, hbel.out.trans (hbu.mono hs)⟩
          case measure => simp [intOf]; omega
      · go_wp2
        go_ret
        exact ⟨y, rfl, hy1, fun _ => by omega, hbel.out⟩
  · go_enter Tryz.func18, Tryz.ntmps18
    go_wp2
    go_ret
    exact ⟨-1, rfl, by omega, fun h => by omega, Below.refl _ _⟩

set_option maxRecDepth 100000 in
set_option maxHeartbeats 2000000 in
theorem szP_any (B : Nat) (v : Value) (n : Nat) (f : Nat → ByteArray × Int × ByteArray) (x : Int) (w : World) (h : Lst B w v n 3 (cP f)) (hB : B ≤ w.heap.size) (hz : ∀ i, i < n → (f i).1.size ≤ maxLen ∧ (f i).2.2.size ≤ maxLen) (h0 : 0 ≤ x) (h1 : x ≤ 1048576) :
    Calls Tryz.prog 19 #[v, .int .i64 x] w fun e w' => ∃ y, e = .returned (.int .i64 y) ∧ y ≤ x ∧ (0 ≤ y → n ≤ 1048576) ∧ Below w.heap.size w w' := by
  obtain ⟨oa, cap, rfl, hn, hc⟩ := h
  unfold maxLen at hn
  have HC : Hid _ := hc
  have HZ : Hid _ := hz
  clear hc hz
  by_cases hx : (n : Int) ≤ x
  · go_enter Tryz.func19, Tryz.ntmps19
    go_wp2
    go_loopw [1, 5] (fun l i wr => ∃ (k : Nat) (y : Int), k ≤ n ∧ i = .int .i64 k ∧ l = .int .i64 y ∧ 0 ≤ y ∧ y ≤ x ∧ Hid (Below w.heap.size w wr)) (fun _ i _ => n - (intOf i).toNat)
    case atStart => exact ⟨0, _, Nat.zero_le _, rfl, rfl, by omega, by omega, Below.refl _ _⟩
    case round =>
      obtain ⟨k, y, hk, rfl, rfl, hy0, hy1, hbel⟩ := hrel
      have hs := hbel.out.size
      by_cases hlt : k < n
      · obtain ⟨b, off, rfl, hbB, hcell⟩ := HC.out k hlt
        have HZK : Hid _ := HZ.out k hlt
        have e0 : wr.cell? ⟨b, off + k * 3, none⟩ = some (.string (f k).1) := (hbel.out.cell (p := ⟨b, off + k * 3, none⟩) (by show b < _; omega)).trans (by simpa [cP] using hcell 0 (by omega))
        have e1 : wr.cell? ⟨b, off + k * 3 + 1, none⟩ = some (.int .i64 (f k).2.1) := (hbel.out.cell (p := ⟨b, off + k * 3 + 1, none⟩) (by show b < _; omega)).trans (by simpa [cP] using hcell 1 (by omega))
        have e2 : wr.cell? ⟨b, off + k * 3 + 2, none⟩ = some (.string (f k).2.2) := (hbel.out.cell (p := ⟨b, off + k * 3 + 2, none⟩) (by show b < _; omega)).trans (by simpa [cP] using hcell 2 (by omega))
        go_wp2_with fail
        refine (szPlace_any _ _ _ _ _ HZK.out.1 HZK.out.2 hy0 (by omega)).mono ?_; rintro e u ⟨z, rfl, hz1, hbu⟩
        by_cases hneg : z < 0
        · go_wp2_with fail
          go_ret
          exact ⟨_, rfl, by omega, fun h => by omega, hbel.out.trans (hbu.mono hs)⟩
        · go_wp2_with fail
          go_roundw
          case rel => exact ⟨k + 1, z, by omega, by go_num, rfl, by omega, by omega, hbel.out.trans (hbu.mono hs)⟩
          case measure => simp [intOf]; omega
      · go_wp2
        go_ret
        exact ⟨y, rfl, hy1, fun _ => by omega, hbel.out⟩
  · go_enter Tryz.func19, Tryz.ntmps19
    go_wp2
    go_ret
    exact ⟨-1, rfl, by omega, fun h => by omega, Below.refl _ _⟩

set_option maxRecDepth 100000 in
set_option maxHeartbeats 2000000 in
theorem szV_any (B : Nat) (v : Value) (n : Nat) (f : Nat → ByteArray × ByteArray × ByteArray × ByteArray) (x : Int) (w : World) (h : Lst B w v n 4 (cV f)) (hB : B ≤ w.heap.size) (hz : ∀ i, i < n → (f i).1.size ≤ maxLen ∧ (f i).2.1.size ≤ maxLen ∧ (f i).2.2.1.size ≤ maxLen ∧ (f i).2.2.2.size ≤ maxLen) (h0 : 0 ≤ x) (h1 : x ≤ 1048576) :
    Calls Tryz.prog 20 #[v, .int .i64 x] w fun e w' => ∃ y, e = .returned (.int .i64 y) ∧ y ≤ x ∧ (0 ≤ y → n ≤ 1048576) ∧ Below w.heap.size w w' := by
  obtain ⟨oa, cap, rfl, hn, hc⟩ := h
  unfold maxLen at hn
  have HC : Hid _ := hc
  have HZ : Hid _ := hz
  clear hc hz
  by_cases hx : (n : Int) ≤ x
  · go_enter Tryz.func20, Tryz.ntmps20
    go_wp2
    go_loopw [1, 5] (fun l i wr => ∃ (k : Nat) (y : Int), k ≤ n ∧ i = .int .i64 k ∧ l = .int .i64 y ∧ 0 ≤ y ∧ y ≤ x ∧ Hid (Below w.heap.size w wr)) (fun _ i _ => n - (intOf i).toNat)
    case atStart => exact ⟨0, _, Nat.zero_le _, rfl, rfl, by omega, by omega, Below.refl _ _⟩
    case round =>
      obtain ⟨k, y, hk, rfl, rfl, hy0, hy1, hbel⟩ := hrel
      have hs := hbel.out.size
      by_cases hlt : k < n
      · obtain ⟨b, off, rfl, hbB, hcell⟩ := HC.out k hlt
        have HZK : Hid _ := HZ.out k hlt
        have e0 : wr.cell? ⟨b, off + k * 4, none⟩ = some (.string (f k).1) := (hbel.out.cell (p := ⟨b, off + k * 4, none⟩) (by show b < _; omega)).trans (by simpa [cV] using hcell 0 (by omega))
        have e1 : wr.cell? ⟨b, off + k * 4 + 1, none⟩ = some (.string (f k).2.1) := (hbel.out.cell (p := ⟨b, off + k * 4 + 1, none⟩) (by show b < _; omega)).trans (by simpa [cV] using hcell 1 (by omega))
        have e2 : wr.cell? ⟨b, off + k * 4 + 2, none⟩ = some (.string (f k).2.2.1) := (hbel.out.cell (p := ⟨b, off + k * 4 + 2, none⟩) (by show b < _; omega)).trans (by simpa [cV] using hcell 2 (by omega))
        have e3 : wr.cell? ⟨b, off + k * 4 + 3, none⟩ = some (.string (f k).2.2.2) := (hbel.out.cell (p := ⟨b, off + k * 4 + 3, none⟩) (by show b < _; omega)).trans (by simpa [cV] using hcell 3 (by omega))
        go_wp2_with fail
        refine (szValve_any _ _ _ _ _ _ HZK.out.1 HZK.out.2.1 HZK.out.2.2.1 HZK.out.2.2.2 hy0 (by omega)).mono ?_; rintro e u ⟨z, rfl, hz1, hbu⟩
        by_cases hneg : z < 0
        · go_wp2_with fail
          go_ret
          exact ⟨_, rfl, by omega, fun h => by omega, hbel.out.trans (hbu.mono hs)⟩
        · go_wp2_with fail
          go_roundw
          case rel => exact ⟨k + 1, z, by omega, by go_num, rfl, by omega, by omega, hbel.out.trans (hbu.mono hs)⟩
          case measure => simp [intOf]; omega
      · go_wp2
        go_ret
        exact ⟨y, rfl, hy1, fun _ => by omega, hbel.out⟩
  · go_enter Tryz.func20, Tryz.ntmps20
    go_wp2
    go_ret
    exact ⟨-1, rfl, by omega, fun h => by omega, Below.refl _ _⟩

/-- No text of a plant is longer than any can be. -/
structure PD.All (D : PD) : Prop where
  s : ∀ i, i < D.ns → (D.fs i).size ≤ maxLen
  f : ∀ i, i < D.nf → (D.ff i).1.size ≤ maxLen ∧ (D.ff i).2.size ≤ maxLen
  p : ∀ i, i < D.np → (D.fp i).1.size ≤ maxLen ∧ (D.fp i).2.2.size ≤ maxLen
  v : ∀ i, i < D.nv → (D.fv i).1.size ≤ maxLen ∧ (D.fv i).2.1.size ≤ maxLen ∧ (D.fv i).2.2.1.size ≤ maxLen ∧ (D.fv i).2.2.2.size ≤ maxLen

set_option maxRecDepth 100000 in
set_option maxHeartbeats 2000000 in
theorem szPlant_le (B : Nat) (v0 v1 v2 v3 : Value) (D : PD) (w : World) (h : PAt B w v0 v1 v2 v3 D) (hB : B ≤ w.heap.size) (hz : D.All) :
    Calls Tryz.prog 4 #[.agg #[v0, v1, v2, v3], .int .i64 1048576] w fun e w' => ∃ y, e = .returned (.int .i64 y) ∧ y ≤ 1048576 ∧ (0 ≤ y → D.ns ≤ 1048576 ∧ D.nf ≤ 1048576 ∧ D.np ≤ 1048576 ∧ D.nv ≤ 1048576) ∧ Below w.heap.size w w' := by
  have H : Hid (∀ w', Below w.heap.size w w' → PAt B w' v0 v1 v2 v3 D) := fun w' hb => h.kept hb hB
  have hb0 : Hid (Below w.heap.size w (w.alloc (.cells #[v0, v1, v2, v3] 27))) := (Below.refl _ _).alloc (Nat.le_refl _) _
  clear h
  go_enter Tryz.func4, Tryz.ntmps4
  go_wp2_with fail
  refine (szS_any B v0 D.ns D.fs _ _ (H.out _ hb0.out).s hz.s (by omega) (by omega)).mono ?_; rintro e w1 ⟨y1, rfl, l1, n1, hb1⟩
  have k1 : Hid (Below w.heap.size w w1) := hb0.out.trans (hb1.mono (by simp))
  have N1 : Hid _ := n1
  clear n1
  by_cases g1 : y1 < 0
  · go_wp2_with fail
    go_ret
    exact ⟨-1, rfl, by omega, fun h => by omega, k1.out⟩
  · have x10 := (hb1.cell (p := ⟨w.heap.size, 0, none⟩) (by simp)).trans (new_cell w #[v0, v1, v2, v3] 27 0 _ rfl)
    have x11 := (hb1.cell (p := ⟨w.heap.size, 1, none⟩) (by simp)).trans (new_cell w #[v0, v1, v2, v3] 27 1 _ rfl)
    have x12 := (hb1.cell (p := ⟨w.heap.size, 2, none⟩) (by simp)).trans (new_cell w #[v0, v1, v2, v3] 27 2 _ rfl)
    have x13 := (hb1.cell (p := ⟨w.heap.size, 3, none⟩) (by simp)).trans (new_cell w #[v0, v1, v2, v3] 27 3 _ rfl)
    have s1 : w.heap.size + 1 ≤ w1.heap.size := by have := hb1.size; simpa using this
    go_wp2_with fail
    refine (szF_any B v1 D.nf D.ff _ _ (H.out _ k1.out).f (by omega) hz.f (by omega) (by omega)).mono ?_; rintro e w2 ⟨y2, rfl, l2, n2, hb2⟩
    have k2 : Hid (Below w.heap.size w w2) := k1.out.trans (hb2.mono (by omega))
    have N2 : Hid _ := n2
    clear n2
    by_cases g2 : y2 < 0
    · go_wp2_with fail
      go_ret
      exact ⟨-1, rfl, by omega, fun h => by omega, k2.out⟩
    · have x20 := (hb2.cell (p := ⟨w.heap.size, 0, none⟩) (by show w.heap.size < _; omega)).trans x10
      have x21 := (hb2.cell (p := ⟨w.heap.size, 1, none⟩) (by show w.heap.size < _; omega)).trans x11
      have x22 := (hb2.cell (p := ⟨w.heap.size, 2, none⟩) (by show w.heap.size < _; omega)).trans x12
      have x23 := (hb2.cell (p := ⟨w.heap.size, 3, none⟩) (by show w.heap.size < _; omega)).trans x13
      have s2 : w.heap.size + 1 ≤ w2.heap.size := by have := hb2.size; omega
      go_wp2_with fail
      refine (szP_any B v2 D.np D.fp _ _ (H.out _ k2.out).p (by omega) hz.p (by omega) (by omega)).mono ?_; rintro e w3 ⟨y3, rfl, l3, n3, hb3⟩
      have k3 : Hid (Below w.heap.size w w3) := k2.out.trans (hb3.mono (by omega))
      have N3 : Hid _ := n3
      clear n3
      by_cases g3 : y3 < 0
      · go_wp2_with fail
        go_ret
        exact ⟨-1, rfl, by omega, fun h => by omega, k3.out⟩
      · have x30 := (hb3.cell (p := ⟨w.heap.size, 0, none⟩) (by show w.heap.size < _; omega)).trans x20
        have x31 := (hb3.cell (p := ⟨w.heap.size, 1, none⟩) (by show w.heap.size < _; omega)).trans x21
        have x32 := (hb3.cell (p := ⟨w.heap.size, 2, none⟩) (by show w.heap.size < _; omega)).trans x22
        have x33 := (hb3.cell (p := ⟨w.heap.size, 3, none⟩) (by show w.heap.size < _; omega)).trans x23
        have s3 : w.heap.size + 1 ≤ w3.heap.size := by have := hb3.size; omega
        go_wp2_with fail
        refine (szV_any B v3 D.nv D.fv _ _ (H.out _ k3.out).v (by omega) hz.v (by omega) (by omega)).mono ?_; rintro e w4 ⟨y4, rfl, l4, n4, hb4⟩
        have k4 : Hid (Below w.heap.size w w4) := k3.out.trans (hb4.mono (by omega))
        have N4 : Hid _ := n4
        clear n4
        by_cases g4 : y4 < 0
        · go_wp2_with fail
          go_ret
          exact ⟨-1, rfl, by omega, fun h => by omega, k4.out⟩
        · go_wp2_with fail
          go_ret
          exact ⟨y4, rfl, by omega, fun _ => ⟨N1.out (by omega), N2.out (by omega), N3.out (by omega), N4.out (by omega)⟩, k4.out⟩

theorem szPlant_any (B : Nat) (v0 v1 v2 v3 : Value) (D : PD) (w : World) (h : PAt B w v0 v1 v2 v3 D) (hB : B ≤ w.heap.size) (hz : D.All) :
    Calls Tryz.prog 4 #[.agg #[v0, v1, v2, v3], .int .i64 1048576] w fun e w' => ∃ y, e = .returned (.int .i64 y) ∧ (0 ≤ y → D.ns ≤ 1048576 ∧ D.nf ≤ 1048576 ∧ D.np ≤ 1048576 ∧ D.nv ≤ 1048576) ∧ Below w.heap.size w w' :=
  (szPlant_le B v0 v1 v2 v3 D w h hB hz).mono fun _ _ ⟨y, h1, _, h2, h3⟩ => ⟨y, h1, h2, h3⟩

end Go.Proofs.YtndacfockllehaaGreat
