/-
  Several texts in one.
-/
import Derived.Test.YtigkkelaadbhcabGreatM1
import Derived.Test.YtigkkelaadbhcabGreatM14
import Derived.Test.YtigkkelaadbhcabGreatM7
import Derived.Deep.Cut
namespace Go.Proofs.YtigkkelaadbhcabGreat
open Go.RowKit
set_option maxRecDepth 100000 in
set_option maxHeartbeats 4000000 in
theorem szStringS_any (S : Nat → Prop) (l : List ByteArray) (v : Value) (x : Int) (w : World) (h : AtL S w l v) (hS : ∀ b, S b → b < w.heap.size) (h0 : 0 ≤ x) (h1 : x ≤ 1048576) :
    Calls Tryz.prog 30 #[v, .int .i64 x] w fun e w' => ∃ y : Int, e = .returned (.int .i64 y) ∧ (y < 0 ∨ y + (totL l : Int) = x) ∧ Below w.heap.size w w' := by
  obtain ⟨oa, cap, rfl, hn, hc⟩ := h
  have ht : totL l = l.length + sumTo l l.length := rfl
  obtain ⟨n, en⟩ : ∃ n, l.length = n := ⟨_, rfl⟩
  rw [en] at ht hn
  rw [en]
  unfold maxLen at hn
  have HC : Hid _ := hc
  clear hc
  have HT : Hid _ := ht
  clear ht
  by_cases hx : (n : Int) ≤ x
  · go_enter Tryz.func30, Tryz.ntmps30
    go_wp2
    go_loopw [1, 5] (fun q i wr => ∃ (k : Nat) (y : Int), k ≤ n ∧ i = .int .i64 k ∧ q = .int .i64 y ∧ 0 ≤ y ∧ y ≤ x ∧ Hid (y + ((n + sumTo l k : Nat) : Int) = x) ∧ Hid (Below w.heap.size w wr)) (fun _ i _ => n - (intOf i).toNat)
    case atStart => exact ⟨0, _, Nat.zero_le _, rfl, rfl, by omega, by omega, by rw [sumTo_zero]; show _ = _; omega, Below.refl _ _⟩
    case round =>
      obtain ⟨k, y, hk, rfl, rfl, hy0, hy1, hsum, hbel⟩ := hrel
      have hs := hbel.out.size
      by_cases hlt : k < n
      · obtain ⟨b, off, rfl, hbS, cc, hcell, hat⟩ := HC.out k (by omega)
        have hb := hS b hbS
        have hsu := sumTo_succ l k (by omega)
        rw [width_str] at hcell
        have e0 : wr.cell? ⟨b, off + k, none⟩ = some (cc 0) := (hbel.out.cell (p := ⟨b, off + k, none⟩) (by show b < _; omega)).trans (by have hq := hcell 0 (by omega); first | exact hq | simpa using hq)
        clear hcell
        rw [at_str] at hat
        obtain ⟨ec, hz⟩ := hat
        rw [ec] at e0
        clear ec
        unfold maxLen at hz
        rw [tot_str] at hsu
        obtain ⟨f, ef⟩ : ∃ f, l[k]'(by omega) = f := ⟨_, rfl⟩
        rw [ef] at e0 hz hsu
        have HSU : Hid _ := hsu
        clear hsu
        by_cases hs : (f.size : Int) ≤ y
        · go_wp2
          go_roundw
          case rel => exact ⟨k + 1, _, by omega, by go_num, rfl, by omega, by omega, by rw [HSU.out]; have := hsum.out; show _ = _; omega, hbel.out⟩
          case measure => simp [intOf]; omega
        · go_wp2
          go_ret
          exact ⟨_, rfl, Or.inl (by omega), hbel.out⟩
      · have hkn : k = n := by omega
        subst hkn
        go_wp2
        go_ret
        exact ⟨y, rfl, Or.inr (by have := hsum.out; rw [HT.out]; omega), hbel.out⟩
  · go_enter Tryz.func30, Tryz.ntmps30
    go_wp2
    go_ret
    exact ⟨-1, rfl, Or.inl (by omega), Below.refl _ _⟩
set_option maxRecDepth 100000 in
set_option maxHeartbeats 4000000 in
theorem szShareBatch_any (S : Nat → Prop) (a : DShareBatch) (c : Nat → Value) (x : Int) (w : World) (h : Lay.At S w a c) (hS : ∀ b, S b → b < w.heap.size) (h0 : 0 ≤ x) (h1 : x ≤ 1048576) :
    Calls Tryz.prog 57 #[.agg #[c 0, c 1, c 2], .int .i64 x] w fun e w' => ∃ y : Int, e = .returned (.int .i64 y) ∧ (y < 0 ∨ y + (Lay.tot a : Int) = x) ∧ Below w.heap.size w w' := by
  rw [tot_DShareBatch]
  rw [at_DShareBatch] at h
  obtain ⟨⟨e0, z0⟩, H1, H2⟩ := h
  obtain ⟨v1, e1⟩ : ∃ v, c 1 = v := ⟨_, rfl⟩
  rw [e1] at H1
  obtain ⟨v2, e2⟩ : ∃ v, c 2 = v := ⟨_, rfl⟩
  rw [e2] at H2
  rw [e0, e1, e2]
  clear e0 e1 e2
  unfold maxLen at z0
  have b0 : Hid (Below w.heap.size w (w.alloc (.cells #[.string a.1, v1, v2] 100))) := (Below.refl _ _).alloc (Nat.le_refl _) _
  go_enter Tryz.func57, Tryz.ntmps57
  by_cases n0 : x < (a.1.size : Int)
  · go_wp2_with fail
    go_ret
    exact ⟨_, rfl, Or.inl (by omega), b0.out⟩
  · have _u := trivial
    go_wp2_with fail
    refine (szStringS_any S _ v1 _ _ (H1.same (Same.of_below b0.out hS)) (fun b hb => by have := hS b hb; have := b0.out.size; omega) (by omega) (by omega)).mono ?_
    rintro e w1 ⟨y1, rfl, t1, u1⟩
    have b1 : Hid (Below w.heap.size w w1) := b0.out.trans (u1.mono b0.out.size)
    have x1_2 : w1.cell? ⟨w.heap.size, 2, none⟩ = some (v2) := (u1.cell (p := ⟨w.heap.size, 2, none⟩) (by simp)).trans (by simp)
    have s1 : w.heap.size < w1.heap.size := by have := u1.size; simp at this; omega
    by_cases n1 : y1 < 0
    · go_wp2_with fail
      go_ret
      exact ⟨_, rfl, Or.inl (by omega), b1.out⟩
    · have _u := trivial
      go_wp2_with fail
      refine (szStringS_any S _ v2 _ _ (H2.same (Same.of_below b1.out hS)) (fun b hb => by have := hS b hb; have := b1.out.size; omega) (by omega) (by omega)).mono ?_
      rintro e w2 ⟨y2, rfl, t2, u2⟩
      have b2 : Hid (Below w.heap.size w w2) := b1.out.trans (u2.mono b1.out.size)
      have s2 : w.heap.size < w2.heap.size := by have := u2.size; omega
      by_cases n2 : y2 < 0
      · go_wp2_with fail
        go_ret
        exact ⟨_, rfl, Or.inl (by omega), b2.out⟩
      · have _u := trivial
        go_wp2_with fail
        go_ret
        exact ⟨_, rfl, Or.inr (by omega), b2.out⟩
set_option maxRecDepth 100000 in
set_option maxHeartbeats 4000000 in
theorem szShareBatchS_any (S : Nat → Prop) (l : List DShareBatch) (v : Value) (x : Int) (w : World) (h : AtL S w l v) (hS : ∀ b, S b → b < w.heap.size) (h0 : 0 ≤ x) (h1 : x ≤ 1048576) :
    Calls Tryz.prog 31 #[v, .int .i64 x] w fun e w' => ∃ y : Int, e = .returned (.int .i64 y) ∧ (y < 0 ∨ y + (totL l : Int) = x) ∧ Below w.heap.size w w' := by
  obtain ⟨oa, cap, rfl, hn, hc⟩ := h
  have ht : totL l = l.length + sumTo l l.length := rfl
  obtain ⟨n, en⟩ : ∃ n, l.length = n := ⟨_, rfl⟩
  rw [en] at ht hn
  rw [en]
  unfold maxLen at hn
  have HC : Hid _ := hc
  clear hc
  have HT : Hid _ := ht
  clear ht
  by_cases hx : (n : Int) ≤ x
  · go_enter Tryz.func31, Tryz.ntmps31
    go_wp2
    go_loopw [1, 5] (fun q i wr => ∃ (k : Nat) (y : Int), k ≤ n ∧ i = .int .i64 k ∧ q = .int .i64 y ∧ 0 ≤ y ∧ y ≤ x ∧ Hid (y + ((n + sumTo l k : Nat) : Int) = x) ∧ Hid (Below w.heap.size w wr)) (fun _ i _ => n - (intOf i).toNat)
    case atStart => exact ⟨0, _, Nat.zero_le _, rfl, rfl, by omega, by omega, by rw [sumTo_zero]; show _ = _; omega, Below.refl _ _⟩
    case round =>
      obtain ⟨k, y, hk, rfl, rfl, hy0, hy1, hsum, hbel⟩ := hrel
      have hs := hbel.out.size
      by_cases hlt : k < n
      · obtain ⟨b, off, rfl, hbS, cc, hcell, hat⟩ := HC.out k (by omega)
        have hb := hS b hbS
        have hsu := sumTo_succ l k (by omega)
        rw [width_DShareBatch] at hcell
        have e0 : wr.cell? ⟨b, off + k * 3, none⟩ = some (cc 0) := (hbel.out.cell (p := ⟨b, off + k * 3, none⟩) (by show b < _; omega)).trans (by have hq := hcell 0 (by omega); first | exact hq | simpa using hq)
        have e1 : wr.cell? ⟨b, off + k * 3 + 1, none⟩ = some (cc 1) := (hbel.out.cell (p := ⟨b, off + k * 3 + 1, none⟩) (by show b < _; omega)).trans (by have hq := hcell 1 (by omega); first | exact hq | simpa using hq)
        have e2 : wr.cell? ⟨b, off + k * 3 + 2, none⟩ = some (cc 2) := (hbel.out.cell (p := ⟨b, off + k * 3 + 2, none⟩) (by show b < _; omega)).trans (by have hq := hcell 2 (by omega); first | exact hq | simpa using hq)
        clear hcell
        have HSU : Hid _ := hsu
        clear hsu
        have HAT : Hid _ := hat
        clear hat
        go_wp2_with fail
        refine (szShareBatch_any S _ cc _ _ (Lay.same HAT.out (Same.of_below hbel.out hS)) (fun b hb => by have := hS b hb; omega) hy0 (by omega)).mono ?_
        rintro e u ⟨z, rfl, hz1, hbu⟩
        by_cases hneg : z < 0
        · go_wp2_with fail
          go_ret
          exact ⟨_, rfl, Or.inl (by omega), hbel.out.trans (hbu.mono hs)⟩
        · go_wp2_with fail
          go_roundw
          case rel => exact ⟨k + 1, z, by omega, by go_num, rfl, by omega, by omega, by rw [HSU.out]; have := hsum.out; show _ = _; omega, hbel.out.trans (hbu.mono hs)⟩
          case measure => simp [intOf]; omega
      · have hkn : k = n := by omega
        subst hkn
        go_wp2
        go_ret
        exact ⟨y, rfl, Or.inr (by have := hsum.out; rw [HT.out]; omega), hbel.out⟩
  · go_enter Tryz.func31, Tryz.ntmps31
    go_wp2
    go_ret
    exact ⟨-1, rfl, Or.inl (by omega), Below.refl _ _⟩
set_option maxRecDepth 100000 in
set_option maxHeartbeats 4000000 in
theorem szShareBook_any (S : Nat → Prop) (a : DShareBook) (c : Nat → Value) (x : Int) (w : World) (h : Lay.At S w a c) (hS : ∀ b, S b → b < w.heap.size) (h0 : 0 ≤ x) (h1 : x ≤ 1048576) :
    Calls Tryz.prog 13 #[.agg #[c 0, c 1], .int .i64 x] w fun e w' => ∃ y : Int, e = .returned (.int .i64 y) ∧ (y < 0 ∨ y + (Lay.tot a : Int) = x) ∧ Below w.heap.size w w' := by
  rw [tot_DShareBook]
  rw [at_DShareBook] at h
  obtain ⟨H0, H1⟩ := h
  obtain ⟨v0, e0⟩ : ∃ v, c 0 = v := ⟨_, rfl⟩
  rw [e0] at H0
  obtain ⟨v1, e1⟩ : ∃ v, c 1 = v := ⟨_, rfl⟩
  rw [e1] at H1
  rw [e0, e1]
  clear e0 e1
  have b0 : Hid (Below w.heap.size w (w.alloc (.cells #[v0, v1] 25))) := (Below.refl _ _).alloc (Nat.le_refl _) _
  go_enter Tryz.func13, Tryz.ntmps13
  go_wp2_with fail
  refine (szStringS_any S _ v0 _ _ (H0.same (Same.of_below b0.out hS)) (fun b hb => by have := hS b hb; have := b0.out.size; omega) (by omega) (by omega)).mono ?_
  rintro e w1 ⟨y0, rfl, t0, u1⟩
  have b1 : Hid (Below w.heap.size w w1) := b0.out.trans (u1.mono b0.out.size)
  have x1_1 : w1.cell? ⟨w.heap.size, 1, none⟩ = some (v1) := (u1.cell (p := ⟨w.heap.size, 1, none⟩) (by simp)).trans (by simp)
  have s1 : w.heap.size < w1.heap.size := by have := u1.size; simp at this; omega
  by_cases n0 : y0 < 0
  · go_wp2_with fail
    go_ret
    exact ⟨_, rfl, Or.inl (by omega), b1.out⟩
  · have _u := trivial
    go_wp2_with fail
    refine (szShareBatchS_any S _ v1 _ _ (H1.same (Same.of_below b1.out hS)) (fun b hb => by have := hS b hb; have := b1.out.size; omega) (by omega) (by omega)).mono ?_
    rintro e w2 ⟨y1, rfl, t1, u2⟩
    have b2 : Hid (Below w.heap.size w w2) := b1.out.trans (u2.mono b1.out.size)
    have s2 : w.heap.size < w2.heap.size := by have := u2.size; omega
    by_cases n1 : y1 < 0
    · go_wp2_with fail
      go_ret
      exact ⟨_, rfl, Or.inl (by omega), b2.out⟩
    · have _u := trivial
      go_wp2_with fail
      go_ret
      exact ⟨_, rfl, Or.inr (by omega), b2.out⟩
end Go.Proofs.YtigkkelaadbhcabGreat

namespace Go.Proofs.YtigkkelaadbhcabGreat
open Go.RowKit
set_option maxRecDepth 100000 in
set_option maxHeartbeats 4000000 in
theorem szRunDone_any (S : Nat → Prop) (a : DRunDone) (c : Nat → Value) (x : Int) (w : World) (h : Lay.At S w a c) (_hS : ∀ b, S b → b < w.heap.size) (h0 : 0 ≤ x) (h1 : x ≤ 1048576) :
    Calls Tryz.prog 33 #[.agg #[c 0, c 1, c 2], .int .i64 x] w fun e w' => ∃ y : Int, e = .returned (.int .i64 y) ∧ (y < 0 ∨ y + (Lay.tot a : Int) = x) ∧ Below w.heap.size w w' := by
  rw [tot_DRunDone]
  rw [at_DRunDone] at h
  obtain ⟨⟨e0, z0⟩, ⟨e1, z1, y1⟩, ⟨e2, z2, y2⟩⟩ := h
  rw [e0, e1, e2]
  clear e0 e1 e2
  unfold maxLen at z0
  have b0 : Hid (Below w.heap.size w (w.alloc (.cells #[.string a.1, .int .i64 a.2.1, .int .i64 a.2.2] 78))) := (Below.refl _ _).alloc (Nat.le_refl _) _
  go_enter Tryz.func33, Tryz.ntmps33
  by_cases n0 : x < (a.1.size : Int)
  · go_wp2_with fail
    go_ret
    exact ⟨_, rfl, Or.inl (by omega), b0.out⟩
  · have _u := trivial
    go_wp2_with fail
    go_ret
    exact ⟨_, rfl, Or.inr (by omega), b0.out⟩
set_option maxRecDepth 100000 in
set_option maxHeartbeats 4000000 in
theorem szRunBatchS_any (S : Nat → Prop) (l : List DRunBatch) (v : Value) (x : Int) (w : World) (h : AtL S w l v) (hS : ∀ b, S b → b < w.heap.size) (h0 : 0 ≤ x) (h1 : x ≤ 1048576) :
    Calls Tryz.prog 14 #[v, .int .i64 x] w fun e w' => ∃ y : Int, e = .returned (.int .i64 y) ∧ (y < 0 ∨ y + (totL l : Int) = x) ∧ Below w.heap.size w w' := by
  obtain ⟨oa, cap, rfl, hn, hc⟩ := h
  have ht : totL l = l.length + sumTo l l.length := rfl
  obtain ⟨n, en⟩ : ∃ n, l.length = n := ⟨_, rfl⟩
  rw [en] at ht hn
  rw [en]
  unfold maxLen at hn
  have HC : Hid _ := hc
  clear hc
  have HT : Hid _ := ht
  clear ht
  by_cases hx : (n : Int) ≤ x
  · go_enter Tryz.func14, Tryz.ntmps14
    go_wp2
    go_loopw [1, 5] (fun q i wr => ∃ (k : Nat) (y : Int), k ≤ n ∧ i = .int .i64 k ∧ q = .int .i64 y ∧ 0 ≤ y ∧ y ≤ x ∧ Hid (y + ((n + sumTo l k : Nat) : Int) = x) ∧ Hid (Below w.heap.size w wr)) (fun _ i _ => n - (intOf i).toNat)
    case atStart => exact ⟨0, _, Nat.zero_le _, rfl, rfl, by omega, by omega, by rw [sumTo_zero]; show _ = _; omega, Below.refl _ _⟩
    case round =>
      obtain ⟨k, y, hk, rfl, rfl, hy0, hy1, hsum, hbel⟩ := hrel
      have hs := hbel.out.size
      by_cases hlt : k < n
      · obtain ⟨b, off, rfl, hbS, cc, hcell, hat⟩ := HC.out k (by omega)
        have hb := hS b hbS
        have hsu := sumTo_succ l k (by omega)
        rw [width_DRunBatch] at hcell
        have e0 : wr.cell? ⟨b, off + k * 6, none⟩ = some (cc 0) := (hbel.out.cell (p := ⟨b, off + k * 6, none⟩) (by show b < _; omega)).trans (by have hq := hcell 0 (by omega); first | exact hq | simpa using hq)
        have e1 : wr.cell? ⟨b, off + k * 6 + 1, none⟩ = some (cc 1) := (hbel.out.cell (p := ⟨b, off + k * 6 + 1, none⟩) (by show b < _; omega)).trans (by have hq := hcell 1 (by omega); first | exact hq | simpa using hq)
        have e2 : wr.cell? ⟨b, off + k * 6 + 2, none⟩ = some (cc 2) := (hbel.out.cell (p := ⟨b, off + k * 6 + 2, none⟩) (by show b < _; omega)).trans (by have hq := hcell 2 (by omega); first | exact hq | simpa using hq)
        have e3 : wr.cell? ⟨b, off + k * 6 + 3, none⟩ = some (cc 3) := (hbel.out.cell (p := ⟨b, off + k * 6 + 3, none⟩) (by show b < _; omega)).trans (by have hq := hcell 3 (by omega); first | exact hq | simpa using hq)
        have e4 : wr.cell? ⟨b, off + k * 6 + 4, none⟩ = some (cc 4) := (hbel.out.cell (p := ⟨b, off + k * 6 + 4, none⟩) (by show b < _; omega)).trans (by have hq := hcell 4 (by omega); first | exact hq | simpa using hq)
        have e5 : wr.cell? ⟨b, off + k * 6 + 5, none⟩ = some (cc 5) := (hbel.out.cell (p := ⟨b, off + k * 6 + 5, none⟩) (by show b < _; omega)).trans (by have hq := hcell 5 (by omega); first | exact hq | simpa using hq)
        clear hcell
        have HSU : Hid _ := hsu
        clear hsu
        have HAT : Hid _ := hat
        clear hat
        go_wp2_with fail
        refine (szRunBatch_any S _ cc _ _ (Lay.same HAT.out (Same.of_below hbel.out hS)) (fun b hb => by have := hS b hb; omega) hy0 (by omega)).mono ?_
        rintro e u ⟨z, rfl, hz1, hbu⟩
        by_cases hneg : z < 0
        · go_wp2_with fail
          go_ret
          exact ⟨_, rfl, Or.inl (by omega), hbel.out.trans (hbu.mono hs)⟩
        · go_wp2_with fail
          go_roundw
          case rel => exact ⟨k + 1, z, by omega, by go_num, rfl, by omega, by omega, by rw [HSU.out]; have := hsum.out; show _ = _; omega, hbel.out.trans (hbu.mono hs)⟩
          case measure => simp [intOf]; omega
      · have hkn : k = n := by omega
        subst hkn
        go_wp2
        go_ret
        exact ⟨y, rfl, Or.inr (by have := hsum.out; rw [HT.out]; omega), hbel.out⟩
  · go_enter Tryz.func14, Tryz.ntmps14
    go_wp2
    go_ret
    exact ⟨-1, rfl, Or.inl (by omega), Below.refl _ _⟩
set_option maxRecDepth 100000 in
set_option maxHeartbeats 4000000 in
theorem szRunDoneS_any (S : Nat → Prop) (l : List DRunDone) (v : Value) (x : Int) (w : World) (h : AtL S w l v) (hS : ∀ b, S b → b < w.heap.size) (h0 : 0 ≤ x) (h1 : x ≤ 1048576) :
    Calls Tryz.prog 15 #[v, .int .i64 x] w fun e w' => ∃ y : Int, e = .returned (.int .i64 y) ∧ (y < 0 ∨ y + (totL l : Int) = x) ∧ Below w.heap.size w w' := by
  obtain ⟨oa, cap, rfl, hn, hc⟩ := h
  have ht : totL l = l.length + sumTo l l.length := rfl
  obtain ⟨n, en⟩ : ∃ n, l.length = n := ⟨_, rfl⟩
  rw [en] at ht hn
  rw [en]
  unfold maxLen at hn
  have HC : Hid _ := hc
  clear hc
  have HT : Hid _ := ht
  clear ht
  by_cases hx : (n : Int) ≤ x
  · go_enter Tryz.func15, Tryz.ntmps15
    go_wp2
    go_loopw [1, 5] (fun q i wr => ∃ (k : Nat) (y : Int), k ≤ n ∧ i = .int .i64 k ∧ q = .int .i64 y ∧ 0 ≤ y ∧ y ≤ x ∧ Hid (y + ((n + sumTo l k : Nat) : Int) = x) ∧ Hid (Below w.heap.size w wr)) (fun _ i _ => n - (intOf i).toNat)
    case atStart => exact ⟨0, _, Nat.zero_le _, rfl, rfl, by omega, by omega, by rw [sumTo_zero]; show _ = _; omega, Below.refl _ _⟩
    case round =>
      obtain ⟨k, y, hk, rfl, rfl, hy0, hy1, hsum, hbel⟩ := hrel
      have hs := hbel.out.size
      by_cases hlt : k < n
      · obtain ⟨b, off, rfl, hbS, cc, hcell, hat⟩ := HC.out k (by omega)
        have hb := hS b hbS
        have hsu := sumTo_succ l k (by omega)
        rw [width_DRunDone] at hcell
        have e0 : wr.cell? ⟨b, off + k * 3, none⟩ = some (cc 0) := (hbel.out.cell (p := ⟨b, off + k * 3, none⟩) (by show b < _; omega)).trans (by have hq := hcell 0 (by omega); first | exact hq | simpa using hq)
        have e1 : wr.cell? ⟨b, off + k * 3 + 1, none⟩ = some (cc 1) := (hbel.out.cell (p := ⟨b, off + k * 3 + 1, none⟩) (by show b < _; omega)).trans (by have hq := hcell 1 (by omega); first | exact hq | simpa using hq)
        have e2 : wr.cell? ⟨b, off + k * 3 + 2, none⟩ = some (cc 2) := (hbel.out.cell (p := ⟨b, off + k * 3 + 2, none⟩) (by show b < _; omega)).trans (by have hq := hcell 2 (by omega); first | exact hq | simpa using hq)
        clear hcell
        have HSU : Hid _ := hsu
        clear hsu
        have HAT : Hid _ := hat
        clear hat
        go_wp2_with fail
        refine (szRunDone_any S _ cc _ _ (Lay.same HAT.out (Same.of_below hbel.out hS)) (fun b hb => by have := hS b hb; omega) hy0 (by omega)).mono ?_
        rintro e u ⟨z, rfl, hz1, hbu⟩
        by_cases hneg : z < 0
        · go_wp2_with fail
          go_ret
          exact ⟨_, rfl, Or.inl (by omega), hbel.out.trans (hbu.mono hs)⟩
        · go_wp2_with fail
          go_roundw
          case rel => exact ⟨k + 1, z, by omega, by go_num, rfl, by omega, by omega, by rw [HSU.out]; have := hsum.out; show _ = _; omega, hbel.out.trans (hbu.mono hs)⟩
          case measure => simp [intOf]; omega
      · have hkn : k = n := by omega
        subst hkn
        go_wp2
        go_ret
        exact ⟨y, rfl, Or.inr (by have := hsum.out; rw [HT.out]; omega), hbel.out⟩
  · go_enter Tryz.func15, Tryz.ntmps15
    go_wp2
    go_ret
    exact ⟨-1, rfl, Or.inl (by omega), Below.refl _ _⟩
set_option maxRecDepth 100000 in
set_option maxHeartbeats 8000000 in
theorem szRunHouse_any (S : Nat → Prop) (a : DRunHouse) (c : Nat → Value) (x : Int) (w : World) (h : Lay.At S w a c) (hS : ∀ b, S b → b < w.heap.size) (h0 : 0 ≤ x) (h1 : x ≤ 1048576) :
    Calls Tryz.prog 4 #[.agg #[c 0, c 1, c 2, c 3, c 4, c 5], .int .i64 x] w fun e w' => ∃ y : Int, e = .returned (.int .i64 y) ∧ (y < 0 ∨ y + (Lay.tot a : Int) = x) ∧ Below w.heap.size w w' := by
  rw [tot_DRunHouse]
  rw [at_DRunHouse] at h
  obtain ⟨⟨e0, z0, y0⟩, ⟨e1, z1, y1⟩, H2, H3, H4, H5⟩ := h
  obtain ⟨v2, e2⟩ : ∃ v, c 2 = v := ⟨_, rfl⟩
  rw [e2] at H2
  obtain ⟨v3, e3⟩ : ∃ v, c 3 = v := ⟨_, rfl⟩
  rw [e3] at H3
  obtain ⟨v4, e4⟩ : ∃ v, c 4 = v := ⟨_, rfl⟩
  rw [e4] at H4
  obtain ⟨v5, e5⟩ : ∃ v, c 5 = v := ⟨_, rfl⟩
  rw [e5] at H5
  rw [e0, e1, e2, e3, e4, e5]
  clear e0 e1 e2 e3 e4 e5
  obtain ⟨W, EW, BW, RW, sW⟩ := box_new w #[.int .i64 a.1, .int .i64 a.2.1, v2, v3, v4, v5] 29
  have BOX : Hid (∀ u, Below W.heap.size W u → u.heap[w.heap.size]? = some (.cells #[.int .i64 a.1, .int .i64 a.2.1, v2, v3, v4, v5] 29 (0, 0)) ∧ Below w.heap.size w u) := fun u hu => ⟨(hu.block _ (by omega)).trans RW.out, BW.out.trans (hu.mono (by omega))⟩
  have HS : Hid _ := lt_up hS
  have A2 : Hid (∀ u, Below w.heap.size w u → Lay.At S u ((a.2.2.1, a.2.2.2.1) : DShareBook) (cs [v2, v3])) := fun u hu => at_DShareBook.2 ⟨H2.same (Same.of_below hu hS), H3.same (Same.of_below hu hS)⟩
  have A4 : Hid _ := H4.ups hS
  have A5 : Hid _ := H5.ups hS
  clear H2 H3 H4 H5 hS
  have p2 := (cell_row RW.out 2 v2 rfl).1
  have p3 := (cell_row RW.out 3 v3 rfl).1
  go_enter Tryz.func4, Tryz.ntmps4
  go_upto_region 1 with fail
  rw [← EW.out]
  go_wp2_with fail
  refine (szShareBook_any S (a.2.2.1, a.2.2.2.1) (cs [v2, v3]) _ W (A2.out W BW.out) (HS.out W BW.out) h0 h1).mono ?_
  rintro e w1 ⟨y1, rfl, t1, u1⟩
  rw [tot_DShareBook] at t1
  have T1 : Hid _ := t1
  have C1 : Hid (Below W.heap.size W w1) := u1
  clear p2 p3 t1 u1
  have B1 := BOX.out w1 C1.out
  have p4 := (cell_row B1.1 4 v4 rfl).1
  by_cases n1 : y1 < 0
  · go_wp2_with fail
    go_ret
    exact ⟨_, rfl, Or.inl (by omega), B1.2⟩
  have l1 : y1 ≤ 1048576 := by have := T1.out; omega
  go_wp2_with fail
  refine (szRunBatchS_any S a.2.2.2.2.1 v4 y1 w1 (A4.out w1 B1.2) (HS.out w1 B1.2) (by omega) l1).mono ?_
  rintro e w2 ⟨y2, rfl, t2, u2⟩
  have T2 : Hid _ := t2
  have C2 : Hid (Below W.heap.size W w2) := C1.out.trans (u2.mono C1.out.size)
  clear p4 t2 u2
  have B2 := BOX.out w2 C2.out
  have p5 := (cell_row B2.1 5 v5 rfl).1
  by_cases n2 : y2 < 0
  · go_wp2_with fail
    go_ret
    exact ⟨_, rfl, Or.inl (by omega), B2.2⟩
  have l2 : y2 ≤ 1048576 := by have := T2.out; omega
  go_wp2_with fail
  refine (szRunDoneS_any S a.2.2.2.2.2 v5 y2 w2 (A5.out w2 B2.2) (HS.out w2 B2.2) (by omega) l2).mono ?_
  rintro e w3 ⟨y3, rfl, t3, u3⟩
  have T3 : Hid _ := t3
  have C3 : Hid (Below W.heap.size W w3) := C2.out.trans (u3.mono C2.out.size)
  clear p5 t3 u3
  have B3 := BOX.out w3 C3.out
  by_cases n3 : y3 < 0
  · go_wp2_with fail
    go_ret
    exact ⟨_, rfl, Or.inl (by omega), B3.2⟩
  · go_wp2_with fail
    go_ret
    refine ⟨_, rfl, Or.inr ?_, B3.2⟩
    have h1 := T1.out
    have h2 := T2.out
    have h3 := T3.out
    omega
end Go.Proofs.YtigkkelaadbhcabGreat

namespace Go.Proofs.YtigkkelaadbhcabGreat
open Go.RowKit
theorem underStringS : Tryz.prog.underlying 22 = some (.slice 9) := by kernel_rfl
theorem infoStringS : (Tryz.prog.info? 9).map (fun i => (i.zero, i.size, i.bytes)) = some (some (.string ByteArray.empty), 1, 16) := by kernel_rfl
theorem underShareBatchS : Tryz.prog.underlying 32 = some (.slice 112) := by kernel_rfl
theorem infoShareBatchS : (Tryz.prog.info? 112).map (fun i => (i.zero, i.size, i.bytes)) = some (some (.agg #[.string ByteArray.empty, .slice none 0 0, .slice none 0 0]), 3, 64) := by kernel_rfl
end Go.Proofs.YtigkkelaadbhcabGreat

namespace Go.Proofs.YtigkkelaadbhcabGreat
open Go.RowKit
theorem underRunBatchS : Tryz.prog.underlying 35 = some (.slice 52) := by kernel_rfl
theorem infoRunBatchS : (Tryz.prog.info? 52).map (fun i => (i.zero, i.size, i.bytes)) = some (some (.agg #[.string ByteArray.empty, .slice none 0 0, .slice none 0 0, .string ByteArray.empty, .int .i64 0, .int .i64 0]), 6, 96) := by kernel_rfl
theorem underRunDoneS : Tryz.prog.underlying 36 = some (.slice 86) := by kernel_rfl
theorem infoRunDoneS : (Tryz.prog.info? 86).map (fun i => (i.zero, i.size, i.bytes)) = some (some (.agg #[.string ByteArray.empty, .int .i64 0, .int .i64 0]), 3, 32) := by kernel_rfl
end Go.Proofs.YtigkkelaadbhcabGreat
