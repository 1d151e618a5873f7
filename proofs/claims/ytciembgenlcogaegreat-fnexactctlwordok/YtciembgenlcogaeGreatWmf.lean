/-
  Several texts in one.
-/
import Derived.Test.YtciembgenlcogaeGreatCwa
import Derived.Deep.Slices
import Derived.Lib.SmallJoins
import Derived.ProofKit

/-
  Contracts of the laws' own measure of data.
-/
namespace Go.Proofs.YtciembgenlcogaeGreat.C
open Go.RowKit

set_option maxRecDepth 100000 in
set_option maxHeartbeats 4000000 in
theorem szClaimUse_any (S : Nat → Prop) (a : DClaimUse) (c : Nat → Value) (x : Int) (w : World) (h : Lay.At S w a c) (_hS : ∀ b, S b → b < w.heap.size) (h0 : 0 ≤ x) (h1 : x ≤ 1048576) :
    Calls Tryz.prog 67 #[.agg #[c 0, c 1, c 2], .int .i64 x] w fun e w' => ∃ y : Int, e = .returned (.int .i64 y) ∧ (y < 0 ∨ y + (Lay.tot a : Int) = x) ∧ Below w.heap.size w w' := by
  rw [tot_DClaimUse]
  rw [at_DClaimUse] at h
  obtain ⟨⟨e0, z0⟩, ⟨e1, z1, y1⟩, ⟨e2, z2, y2⟩⟩ := h
  rw [e0, e1, e2]
  clear e0 e1 e2
  unfold maxLen at z0
  have b0 : Hid (Below w.heap.size w (w.alloc (.cells #[.string a.1, .int .i64 a.2.1, .int .i64 a.2.2] 105))) := (Below.refl _ _).alloc (Nat.le_refl _) _
  go_enter Tryz.func67, Tryz.ntmps67
  by_cases n0 : x < (a.1.size : Int)
  · go_wp2_with fail
    go_ret
    exact ⟨_, rfl, Or.inl (by omega), b0.out⟩
  · have _u := trivial
    go_wp2_with fail
    go_ret
    exact ⟨_, rfl, Or.inr (by omega), b0.out⟩

set_option maxRecDepth 100000 in
set_option maxHeartbeats 4000000 in
theorem szStringS_any (S : Nat → Prop) (l : List ByteArray) (v : Value) (x : Int) (w : World) (h : AtL S w l v) (hS : ∀ b, S b → b < w.heap.size) (h0 : 0 ≤ x) (h1 : x ≤ 1048576) :
    Calls Tryz.prog 12 #[v, .int .i64 x] w fun e w' => ∃ y : Int, e = .returned (.int .i64 y) ∧ (y < 0 ∨ y + (totL l : Int) = x) ∧ Below w.heap.size w w' := by
  obtain ⟨oa, cap, rfl, hn, hc⟩ := h
  have ht : totL l = l.length + sumTo l l.length := rfl
  obtain ⟨n, en⟩ : ∃ n, l.length = n := ⟨_, rfl⟩
  rw [en] at ht hn
  rw [en]
  unfold maxLen at hn
  have HC : Hid _ := hc
  clear hc
  have HT : Hid _ := ht
  clear ht
  by_cases hx : (n : Int) ≤ x
  · go_enter Tryz.func12, Tryz.ntmps12
    go_wp2
    go_loopw [1, 5] (fun q i wr => ∃ (k : Nat) (y : Int), k ≤ n ∧ i = .int .i64 k ∧ q = .int .i64 y ∧ 0 ≤ y ∧ y ≤ x ∧ Hid (y + ((n + sumTo l k : Nat) : Int) = x) ∧ Hid (Below w.heap.size w wr)) (fun _ i _ => n - (intOf i).toNat)
    case atStart => exact ⟨0, _, Nat.zero_le _, rfl, rfl, by omega, by omega, by rw [sumTo_zero]; show _ = _; omega, Below.refl _ _⟩
    case round =>
      obtain ⟨k, y, hk, rfl, rfl, hy0, hy1, hsum, hbel⟩ := hrel
      have hs := hbel.out.size
      by_cases hlt : k < n
      · obtain ⟨b, off, rfl, hbS, cc, hcell, hat⟩ := HC.out k (by omega)
        have hb := hS b hbS
        have hsu := sumTo_succ l k (by omega)
        rw [width_str] at hcell
        have e0 : wr.cell? ⟨b, off + k, none⟩ = some (cc 0) := (hbel.out.cell (p := ⟨b, off + k, none⟩) (by show b < _; omega)).trans (by simpa using hcell 0 (by omega))
        clear hcell
        rw [at_str] at hat
        obtain ⟨ec, hz⟩ := hat
        rw [ec] at e0
        clear ec
        unfold maxLen at hz
        rw [tot_str] at hsu
        obtain ⟨f, ef⟩ : ∃ f, l[k]'(by omega) = f := ⟨_, rfl⟩
        rw [ef] at e0 hz hsu
        have HSU : Hid _ := hsu
        clear hsu
        by_cases hs : (f.size : Int) ≤ y
        · go_wp2
          go_roundw
          case rel => exact ⟨k + 1, _, by omega, by go_num, rfl, by omega, by omega, by rw [HSU.out]; have := hsum.out; show _ = _; omega, hbel.out⟩
          case measure => simp [intOf]; omega
        · go_wp2
          go_ret
          exact ⟨_, rfl, Or.inl (by omega), hbel.out⟩
      · have hkn : k = n := by omega
        subst hkn
        go_wp2
        go_ret
        exact ⟨y, rfl, Or.inr (by have := hsum.out; rw [HT.out]; omega), hbel.out⟩
  · go_enter Tryz.func12, Tryz.ntmps12
    go_wp2
    go_ret
    exact ⟨-1, rfl, Or.inl (by omega), Below.refl _ _⟩

set_option maxRecDepth 100000 in
set_option maxHeartbeats 4000000 in
theorem szClaimUseS_any (S : Nat → Prop) (l : List DClaimUse) (v : Value) (x : Int) (w : World) (h : AtL S w l v) (hS : ∀ b, S b → b < w.heap.size) (h0 : 0 ≤ x) (h1 : x ≤ 1048576) :
    Calls Tryz.prog 39 #[v, .int .i64 x] w fun e w' => ∃ y : Int, e = .returned (.int .i64 y) ∧ (y < 0 ∨ y + (totL l : Int) = x) ∧ Below w.heap.size w w' := by
  obtain ⟨oa, cap, rfl, hn, hc⟩ := h
  have ht : totL l = l.length + sumTo l l.length := rfl
  obtain ⟨n, en⟩ : ∃ n, l.length = n := ⟨_, rfl⟩
  rw [en] at ht hn
  rw [en]
  unfold maxLen at hn
  have HC : Hid _ := hc
  clear hc
  have HT : Hid _ := ht
  clear ht
  by_cases hx : (n : Int) ≤ x
  · go_enter Tryz.func39, Tryz.ntmps39
    go_wp2
    go_loopw [1, 5] (fun q i wr => ∃ (k : Nat) (y : Int), k ≤ n ∧ i = .int .i64 k ∧ q = .int .i64 y ∧ 0 ≤ y ∧ y ≤ x ∧ Hid (y + ((n + sumTo l k : Nat) : Int) = x) ∧ Hid (Below w.heap.size w wr)) (fun _ i _ => n - (intOf i).toNat)
    case atStart => exact ⟨0, _, Nat.zero_le _, rfl, rfl, by omega, by omega, by rw [sumTo_zero]; show _ = _; omega, Below.refl _ _⟩
    case round =>
      obtain ⟨k, y, hk, rfl, rfl, hy0, hy1, hsum, hbel⟩ := hrel
      have hs := hbel.out.size
      by_cases hlt : k < n
      · obtain ⟨b, off, rfl, hbS, cc, hcell, hat⟩ := HC.out k (by omega)
        have hb := hS b hbS
        have hsu := sumTo_succ l k (by omega)
        rw [width_DClaimUse] at hcell
        have e0 : wr.cell? ⟨b, off + k * 3, none⟩ = some (cc 0) := (hbel.out.cell (p := ⟨b, off + k * 3, none⟩) (by show b < _; omega)).trans (by simpa using hcell 0 (by omega))
        have e1 : wr.cell? ⟨b, off + k * 3 + 1, none⟩ = some (cc 1) := (hbel.out.cell (p := ⟨b, off + k * 3 + 1, none⟩) (by show b < _; omega)).trans (by simpa using hcell 1 (by omega))
        have e2 : wr.cell? ⟨b, off + k * 3 + 2, none⟩ = some (cc 2) := (hbel.out.cell (p := ⟨b, off + k * 3 + 2, none⟩) (by show b < _; omega)).trans (by simpa using hcell 2 (by omega))
        clear hcell
        have HSU : Hid _ := hsu
        clear hsu
        have HAT : Hid _ := hat
        clear hat
        go_wp2_with fail
        refine (szClaimUse_any S _ cc _ _ (Lay.same HAT.out (Same.of_below hbel.out hS)) (fun b hb => by have := hS b hb; omega) hy0 (by omega)).mono ?_
        rintro e u ⟨z, rfl, hz1, hbu⟩
        by_cases hneg : z < 0
        · go_wp2_with fail
          go_ret
          exact ⟨_, rfl, Or.inl (by omega), hbel.out.trans (hbu.mono hs)⟩
        · go_wp2_with fail
          go_roundw
          case rel => exact ⟨k + 1, z, by omega, by go_num, rfl, by omega, by omega, by rw [HSU.out]; have := hsum.out; show _ = _; omega, hbel.out.trans (hbu.mono hs)⟩
          case measure => simp [intOf]; omega
      · have hkn : k = n := by omega
        subst hkn
        go_wp2
        go_ret
        exact ⟨y, rfl, Or.inr (by have := hsum.out; rw [HT.out]; omega), hbel.out⟩
  · go_enter Tryz.func39, Tryz.ntmps39
    go_wp2
    go_ret
    exact ⟨-1, rfl, Or.inl (by omega), Below.refl _ _⟩

set_option maxRecDepth 100000 in
set_option maxHeartbeats 4000000 in
theorem szClaimWant_any (S : Nat → Prop) (a : DClaimWant) (c : Nat → Value) (x : Int) (w : World) (h : Lay.At S w a c) (hS : ∀ b, S b → b < w.heap.size) (h0 : 0 ≤ x) (h1 : x ≤ 1048576) :
    Calls Tryz.prog 16 #[.agg #[c 0, c 1, c 2, c 3, c 4, c 5], .int .i64 x] w fun e w' => ∃ y : Int, e = .returned (.int .i64 y) ∧ (y < 0 ∨ y + (Lay.tot a : Int) = x) ∧ Below w.heap.size w w' := by
  rw [tot_DClaimWant]
  rw [at_DClaimWant] at h
  obtain ⟨⟨e0, z0, y0⟩, ⟨e1, z1, y1⟩, H2, H3, H4, H5⟩ := h
  obtain ⟨v2, e2⟩ : ∃ v, c 2 = v := ⟨_, rfl⟩
  rw [e2] at H2
  obtain ⟨v3, e3⟩ : ∃ v, c 3 = v := ⟨_, rfl⟩
  rw [e3] at H3
  obtain ⟨v4, e4⟩ : ∃ v, c 4 = v := ⟨_, rfl⟩
  rw [e4] at H4
  obtain ⟨v5, e5⟩ : ∃ v, c 5 = v := ⟨_, rfl⟩
  rw [e5] at H5
  rw [e0, e1, e2, e3, e4, e5]
  clear e0 e1 e2 e3 e4 e5
  have b0 : Hid (Below w.heap.size w (w.alloc (.cells #[.int .i64 a.1, .int .i64 a.2.1, v2, v3, v4, v5] 30))) := (Below.refl _ _).alloc (Nat.le_refl _) _
  go_enter Tryz.func16, Tryz.ntmps16
  go_wp2_with fail
  refine (szStringS_any S _ v2 _ _ (H2.same (Same.of_below b0.out hS)) (fun b hb => by have := hS b hb; have := b0.out.size; omega) (by omega) (by omega)).mono ?_
  rintro e w1 ⟨y2, rfl, t2, u1⟩
  have b1 : Hid (Below w.heap.size w w1) := b0.out.trans (u1.mono b0.out.size)
  have x1_3 : w1.cell? ⟨w.heap.size, 3, none⟩ = some (v3) := (u1.cell (p := ⟨w.heap.size, 3, none⟩) (by simp)).trans (by simp)
  have x1_4 : w1.cell? ⟨w.heap.size, 4, none⟩ = some (v4) := (u1.cell (p := ⟨w.heap.size, 4, none⟩) (by simp)).trans (by simp)
  have x1_5 : w1.cell? ⟨w.heap.size, 5, none⟩ = some (v5) := (u1.cell (p := ⟨w.heap.size, 5, none⟩) (by simp)).trans (by simp)
  have s1 : w.heap.size < w1.heap.size := by have := u1.size; simp at this; omega
  by_cases n2 : y2 < 0
  · go_wp2_with fail
    go_ret
    exact ⟨_, rfl, Or.inl (by omega), b1.out⟩
  · have _u := trivial
    go_wp2_with fail
    refine (szClaimUseS_any S _ v3 _ _ (H3.same (Same.of_below b1.out hS)) (fun b hb => by have := hS b hb; have := b1.out.size; omega) (by omega) (by omega)).mono ?_
    rintro e w2 ⟨y3, rfl, t3, u2⟩
    have b2 : Hid (Below w.heap.size w w2) := b1.out.trans (u2.mono b1.out.size)
    have x2_4 : w2.cell? ⟨w.heap.size, 4, none⟩ = some (v4) := (u2.cell (p := ⟨w.heap.size, 4, none⟩) (by show w.heap.size < _; omega)).trans x1_4
    have x2_5 : w2.cell? ⟨w.heap.size, 5, none⟩ = some (v5) := (u2.cell (p := ⟨w.heap.size, 5, none⟩) (by show w.heap.size < _; omega)).trans x1_5
    have s2 : w.heap.size < w2.heap.size := by have := u2.size; omega
    by_cases n3 : y3 < 0
    · go_wp2_with fail
      go_ret
      exact ⟨_, rfl, Or.inl (by omega), b2.out⟩
    · have _u := trivial
      go_wp2_with fail
      refine (szStringS_any S _ v4 _ _ (H4.same (Same.of_below b2.out hS)) (fun b hb => by have := hS b hb; have := b2.out.size; omega) (by omega) (by omega)).mono ?_
      rintro e w3 ⟨y4, rfl, t4, u3⟩
      have b3 : Hid (Below w.heap.size w w3) := b2.out.trans (u3.mono b2.out.size)
      have x3_5 : w3.cell? ⟨w.heap.size, 5, none⟩ = some (v5) := (u3.cell (p := ⟨w.heap.size, 5, none⟩) (by show w.heap.size < _; omega)).trans x2_5
      have s3 : w.heap.size < w3.heap.size := by have := u3.size; omega
      by_cases n4 : y4 < 0
      · go_wp2_with fail
        go_ret
        exact ⟨_, rfl, Or.inl (by omega), b3.out⟩
      · have _u := trivial
        go_wp2_with fail
        refine (szStringS_any S _ v5 _ _ (H5.same (Same.of_below b3.out hS)) (fun b hb => by have := hS b hb; have := b3.out.size; omega) (by omega) (by omega)).mono ?_
        rintro e w4 ⟨y5, rfl, t5, u4⟩
        have b4 : Hid (Below w.heap.size w w4) := b3.out.trans (u4.mono b3.out.size)
        have s4 : w.heap.size < w4.heap.size := by have := u4.size; omega
        by_cases n5 : y5 < 0
        · go_wp2_with fail
          go_ret
          exact ⟨_, rfl, Or.inl (by omega), b4.out⟩
        · have _u := trivial
          go_wp2_with fail
          go_ret
          exact ⟨_, rfl, Or.inr (by omega), b4.out⟩

end Go.Proofs.YtciembgenlcogaeGreat.C

/-
  Contracts of the laws' own copying of data: the copy holds what the data hold, in new memory.
-/
namespace Go.Proofs.YtciembgenlcogaeGreat.C
open Go.RowKit

set_option maxRecDepth 100000 in
set_option maxHeartbeats 4000000 in
theorem toClaimUse_any (S : Nat → Prop) (a : DClaimUse) (c : Nat → Value) (w : World) (h : Lay.At S w a c) (_hS : ∀ b, S b → b < w.heap.size) (_hm : Lay.tot a ≤ 1048576) :
    Calls Tryz.prog 73 #[.agg #[c 0, c 1, c 2]] w fun e w' => ∃ g : Nat → Value, e = .returned (.agg #[g 0, g 1, g 2]) ∧ Lay.At (fun b => w.heap.size ≤ b ∧ b < w'.heap.size) w' a g ∧ Below w.heap.size w w' := by
  rw [at_DClaimUse] at h
  obtain ⟨⟨e0, z0⟩, ⟨e1, z1, y1⟩, ⟨e2, z2, y2⟩⟩ := h
  rw [e0, e1, e2]
  clear e0 e1 e2
  go_enter Tryz.func73, Tryz.ntmps73
  go_wp2
  exact bodyPost_ret (v := .agg #[.string a.1, .int .i64 a.2.1, .int .i64 a.2.2]) (by simp [results, Tryz.results73, go_sem]) rfl ⟨cs [.string a.1, .int .i64 a.2.1, .int .i64 a.2.2], rfl, at_DClaimUse.2 ⟨⟨rfl, z0⟩, ⟨rfl, z1, y1⟩, ⟨rfl, z2, y2⟩⟩, by repeat (first | exact Below.refl _ _ | refine Below.alloc ?_ (by simp; try omega) _)⟩

theorem underStringS : Tryz.prog.underlying 22 = some (.slice 9) := by kernel_rfl
theorem infoStringS : (Tryz.prog.info? 9).map (fun i => (i.zero, i.size, i.bytes)) = some (some (.string ByteArray.empty), 1, 16) := by kernel_rfl

set_option maxRecDepth 100000 in
set_option maxHeartbeats 4000000 in
theorem toStringS_any (S : Nat → Prop) (l : List ByteArray) (v : Value) (w : World) (h : AtL S w l v) (hS : ∀ b, S b → b < w.heap.size) (hm : totL l ≤ 1048576) :
    Calls Tryz.prog 23 #[v] w fun e w' => ∃ r, e = .returned r ∧ AtL (fun b => w.heap.size ≤ b ∧ b < w'.heap.size) w' l r ∧ Below w.heap.size w w' := by
  obtain ⟨oa, cap, rfl, hn, hc⟩ := h
  have hln := totL_len l
  have HTE : Hid (∀ i (h : i < l.length), Lay.tot l[i] ≤ 1048576) := fun i h => Nat.le_trans (totL_el l i h) hm
  obtain ⟨n, en⟩ : ∃ n, l.length = n := ⟨_, rfl⟩
  rw [en] at hn hln
  rw [en]
  have HC : Hid _ := hc
  clear hc hn
  obtain ⟨i0, hi, hz0, hz1, hz2⟩ := info_parts infoStringS
  obtain ⟨M, hM⟩ : ∃ M, M = madeCells (.string ByteArray.empty : Value).cells ((n : Int).toNat * i0.size) := ⟨_, rfl⟩
  have hMs : M.size = n * 1 := by rw [hM, size_madeCells, hz1]; simp
  have hmk : ∀ W : World, (Instr.makeSlice 22 (.int .i64 (n : Int)) (.int .i64 (n : Int))).run Tryz.prog W = .ok (.slice (some ⟨W.heap.size, 0, none⟩) n n) (W.alloc (.cells M 9)) := fun W => by
    have h := run_make (P := Tryz.prog) W 22 9 i0 (.string ByteArray.empty) underStringS hi hz0 .i64 .i64 (n : Int) (n : Int) (by omega) (by omega) (by rw [hz2]; omega) (by omega)
    rw [← hM] at h
    simpa using h
  clear hM
  go_enter Tryz.func23, Tryz.ntmps23
  go_wp2
  go_loopw [4] (fun i wr => ∃ (k : Nat) (c : Array Value), k ≤ n ∧ i = .int .i64 k ∧ Hid (wr.heap[w.heap.size]? = some (.cells c 9 (0, 0))) ∧ c.size = n * 1 ∧ Hid (∀ i (h : i < l.length), i < k → ∃ g : Nat → Value, (∀ j, j < 1 → c[i * 1 + j]? = some (g j)) ∧ Lay.At (fun b => w.heap.size < b ∧ b < wr.heap.size) wr l[i] g) ∧ Hid (Below w.heap.size w wr)) (fun i _ => n - (intOf i).toNat)
  case atStart => exact ⟨0, M, Nat.zero_le _, rfl, heap_alloc_new w _, hMs, fun _ _ h => by omega, (Below.refl _ _).alloc (Nat.le_refl _) _⟩
  case round =>
    obtain ⟨k, c, hk, rfl, hrow, hcs, hall, hbel⟩ := hrel
    have hRw : w.heap.size < wr.heap.size := (Array.getElem?_eq_some_iff.1 hrow.out).1
    by_cases hlt : k < n
    · obtain ⟨b, off, rfl, hbS, cc, hcell, hat⟩ := HC.out k (by omega)
      have hb := hS b hbS
      rw [width_str] at hcell
      have e0 : wr.cell? ⟨b, off + k, none⟩ = some (cc 0) := (hbel.out.cell (p := ⟨b, off + k, none⟩) (by show b < _; omega)).trans (by simpa using hcell 0 (by omega))
      clear hcell
      have HAT : Hid _ := hat
      clear hat
      have hrow2 : Hid (wr.heap[w.heap.size]? = some (.cells c 9 (0, 0))) := hrow.out
      have hbel2 : Hid (Below w.heap.size w wr) := hbel.out
      obtain ⟨ge0, _⟩ := at_str.1 HAT.out
      rw [ge0] at e0
      obtain ⟨v0, hv0⟩ : ∃ v, c[k]? = some v := ⟨_, Array.getElem?_eq_getElem (by omega)⟩
      obtain ⟨hcl0, hfr0⟩ := cell_row hrow2.out (k) v0 hv0
      clear hv0
      have HSM : Hid (Same (fun b => w.heap.size < b ∧ b < wr.heap.size) wr (wr.setCell ⟨w.heap.size, k, none⟩ (.string (l[k]'(by omega))))) := (Same.of_set _ ⟨w.heap.size, k, none⟩ (.string (l[k]'(by omega))) (fun h => absurd h.1 (Nat.lt_irrefl _)))
      have HSZ : Hid ((wr.setCell ⟨w.heap.size, k, none⟩ (.string (l[k]'(by omega)))).heap.size = wr.heap.size) := by simp [Hid]
      go_wp2_with fail
      go_roundw
      case rel =>
        refine ⟨k + 1, (c.setIfInBounds (k) (.string (l[k]'(by omega)))), by omega, by go_num, (set_row hrow2.out (k) _), by simpa using hcs, ?_, (hbel2.out.setCell (Nat.le_refl _) _)⟩
        intro i hi hik
        by_cases e : i = k
        · subst e
          refine ⟨cc, ?_, ?_⟩
          · intro j hj
            rcases (show j = 0 by omega) with rfl
            · rw [ge0]
              simp only [Array.getElem?_setIfInBounds, hcs]
              repeat (first | rw [if_pos True.intro] | rw [if_pos (by omega)] | rw [if_neg (by omega)])
          · exact HAT.out
        · obtain ⟨g', h1, h2⟩ := hall.out i hi (by omega)
          refine ⟨g', fun j hj => ?_, ?_⟩
          · simp only [Array.getElem?_setIfInBounds]
            repeat rw [if_neg (by omega)]
            exact h1 j hj
          · refine Lay.up (S := fun b => w.heap.size < b ∧ b < wr.heap.size) (Lay.same (Lay.up h2 ?_) HSM.out) ?_
            · intro b hb; exact ⟨hb.1, by have := hb.2; omega⟩
            · intro b hb; exact ⟨hb.1, by rw [HSZ.out]; exact hb.2⟩
      case measure => simp [intOf]; omega
    · have hkn : k = n := by omega
      subst hkn
      go_wp2_with fail
      go_ret
      refine ⟨.slice (some ⟨w.heap.size, 0, none⟩) k k, rfl, ⟨_, _, by rw [en], by rw [en]; exact ⟨by unfold maxLen; omega, Nat.le_refl _, fun h => nomatch h⟩, fun i hi => ⟨w.heap.size, 0, rfl, ⟨Nat.le_refl _, hRw⟩, ?_⟩⟩, hbel.out⟩
      obtain ⟨g', h1, h2⟩ := hall.out i hi (by omega)
      refine ⟨g', fun j hj => ?_, Lay.up h2 (fun b hb => ⟨by omega, hb.2⟩)⟩
      rw [width_str] at hj ⊢
      have e : 0 + i * 1 + j = i * 1 + j := by omega
      rw [e]
      exact (cell_row hrow.out _ _ (h1 j hj)).1

theorem underClaimUseS : Tryz.prog.underlying 42 = some (.slice 108) := by kernel_rfl
theorem infoClaimUseS : (Tryz.prog.info? 108).map (fun i => (i.zero, i.size, i.bytes)) = some (some (.agg #[.string ByteArray.empty, .int .i64 0, .int .i64 0]), 3, 32) := by kernel_rfl

set_option maxRecDepth 100000 in
set_option maxHeartbeats 4000000 in
theorem toClaimUseS_any (S : Nat → Prop) (l : List DClaimUse) (v : Value) (w : World) (h : AtL S w l v) (hS : ∀ b, S b → b < w.heap.size) (hm : totL l ≤ 1048576) :
    Calls Tryz.prog 51 #[v] w fun e w' => ∃ r, e = .returned r ∧ AtL (fun b => w.heap.size ≤ b ∧ b < w'.heap.size) w' l r ∧ Below w.heap.size w w' := by
  obtain ⟨oa, cap, rfl, hn, hc⟩ := h
  have hln := totL_len l
  have HTE : Hid (∀ i (h : i < l.length), Lay.tot l[i] ≤ 1048576) := fun i h => Nat.le_trans (totL_el l i h) hm
  obtain ⟨n, en⟩ : ∃ n, l.length = n := ⟨_, rfl⟩
  rw [en] at hn hln
  rw [en]
  have HC : Hid _ := hc
  clear hc hn
  obtain ⟨i0, hi, hz0, hz1, hz2⟩ := info_parts infoClaimUseS
  obtain ⟨M, hM⟩ : ∃ M, M = madeCells (.agg #[.string ByteArray.empty, .int .i64 0, .int .i64 0] : Value).cells ((n : Int).toNat * i0.size) := ⟨_, rfl⟩
  have hMs : M.size = n * 3 := by rw [hM, size_madeCells, hz1]; simp
  have hmk : ∀ W : World, (Instr.makeSlice 42 (.int .i64 (n : Int)) (.int .i64 (n : Int))).run Tryz.prog W = .ok (.slice (some ⟨W.heap.size, 0, none⟩) n n) (W.alloc (.cells M 108)) := fun W => by
    have h := run_make (P := Tryz.prog) W 42 108 i0 (.agg #[.string ByteArray.empty, .int .i64 0, .int .i64 0]) underClaimUseS hi hz0 .i64 .i64 (n : Int) (n : Int) (by omega) (by omega) (by rw [hz2]; omega) (by omega)
    rw [← hM] at h
    simpa using h
  clear hM
  go_enter Tryz.func51, Tryz.ntmps51
  go_wp2
  go_loopw [4] (fun i wr => ∃ (k : Nat) (c : Array Value), k ≤ n ∧ i = .int .i64 k ∧ Hid (wr.heap[w.heap.size]? = some (.cells c 108 (0, 0))) ∧ c.size = n * 3 ∧ Hid (∀ i (h : i < l.length), i < k → ∃ g : Nat → Value, (∀ j, j < 3 → c[i * 3 + j]? = some (g j)) ∧ Lay.At (fun b => w.heap.size < b ∧ b < wr.heap.size) wr l[i] g) ∧ Hid (Below w.heap.size w wr)) (fun i _ => n - (intOf i).toNat)
  case atStart => exact ⟨0, M, Nat.zero_le _, rfl, heap_alloc_new w _, hMs, fun _ _ h => by omega, (Below.refl _ _).alloc (Nat.le_refl _) _⟩
  case round =>
    obtain ⟨k, c, hk, rfl, hrow, hcs, hall, hbel⟩ := hrel
    have hRw : w.heap.size < wr.heap.size := (Array.getElem?_eq_some_iff.1 hrow.out).1
    by_cases hlt : k < n
    · obtain ⟨b, off, rfl, hbS, cc, hcell, hat⟩ := HC.out k (by omega)
      have hb := hS b hbS
      rw [width_DClaimUse] at hcell
      have e0 : wr.cell? ⟨b, off + k * 3, none⟩ = some (cc 0) := (hbel.out.cell (p := ⟨b, off + k * 3, none⟩) (by show b < _; omega)).trans (by simpa using hcell 0 (by omega))
      have e1 : wr.cell? ⟨b, off + k * 3 + 1, none⟩ = some (cc 1) := (hbel.out.cell (p := ⟨b, off + k * 3 + 1, none⟩) (by show b < _; omega)).trans (by simpa using hcell 1 (by omega))
      have e2 : wr.cell? ⟨b, off + k * 3 + 2, none⟩ = some (cc 2) := (hbel.out.cell (p := ⟨b, off + k * 3 + 2, none⟩) (by show b < _; omega)).trans (by simpa using hcell 2 (by omega))
      clear hcell
      have HAT : Hid _ := hat
      clear hat
      go_wp2_with fail
      refine (toClaimUse_any S _ cc _ (Lay.same HAT.out (Same.of_below hbel.out hS)) (fun b hb => by have := hS b hb; omega) (HTE.out k (by omega))).mono ?_
      rintro e u ⟨g, rfl, hg, hbu⟩
      have HG : Hid _ := hg
      clear hg
      have hus := hbu.size
      have hrow2 : Hid (u.heap[w.heap.size]? = some (.cells c 108 (0, 0))) := (hbu.block _ hRw).trans hrow.out
      have hbel2 : Hid (Below w.heap.size w u) := hbel.out.trans (hbu.mono (by omega))
      obtain ⟨⟨ge0, _⟩, ⟨ge1, _, _⟩, ⟨ge2, _, _⟩⟩ := at_DClaimUse.1 HG.out
      rw [ge0, ge1, ge2]
      obtain ⟨v0, hv0⟩ : ∃ v, c[k * 3]? = some v := ⟨_, Array.getElem?_eq_getElem (by omega)⟩
      obtain ⟨hcl0, hfr0⟩ := cell_row hrow2.out (k * 3) v0 hv0
      clear hv0
      obtain ⟨v1, hv1⟩ : ∃ v, c[k * 3 + 1]? = some v := ⟨_, Array.getElem?_eq_getElem (by omega)⟩
      obtain ⟨hcl1, hfr1⟩ := cell_row hrow2.out (k * 3 + 1) v1 hv1
      clear hv1
      obtain ⟨v2, hv2⟩ : ∃ v, c[k * 3 + 2]? = some v := ⟨_, Array.getElem?_eq_getElem (by omega)⟩
      obtain ⟨hcl2, hfr2⟩ := cell_row hrow2.out (k * 3 + 2) v2 hv2
      clear hv2
      have HSM : Hid (Same (fun b => w.heap.size < b ∧ b < u.heap.size) u (((u.setCell ⟨w.heap.size, k * 3, none⟩ (.string (l[k]'(by omega)).1)).setCell ⟨w.heap.size, k * 3 + 1, none⟩ (.int .i64 (l[k]'(by omega)).2.1)).setCell ⟨w.heap.size, k * 3 + 2, none⟩ (.int .i64 (l[k]'(by omega)).2.2))) := (((Same.of_set _ ⟨w.heap.size, k * 3, none⟩ (.string (l[k]'(by omega)).1) (fun h => absurd h.1 (Nat.lt_irrefl _))).trans (Same.of_set _ ⟨w.heap.size, k * 3 + 1, none⟩ (.int .i64 (l[k]'(by omega)).2.1) (fun h => absurd h.1 (Nat.lt_irrefl _)))).trans (Same.of_set _ ⟨w.heap.size, k * 3 + 2, none⟩ (.int .i64 (l[k]'(by omega)).2.2) (fun h => absurd h.1 (Nat.lt_irrefl _))))
      have HSZ : Hid ((((u.setCell ⟨w.heap.size, k * 3, none⟩ (.string (l[k]'(by omega)).1)).setCell ⟨w.heap.size, k * 3 + 1, none⟩ (.int .i64 (l[k]'(by omega)).2.1)).setCell ⟨w.heap.size, k * 3 + 2, none⟩ (.int .i64 (l[k]'(by omega)).2.2)).heap.size = u.heap.size) := by simp [Hid]
      go_wp2_with fail
      go_roundw
      case rel =>
        refine ⟨k + 1, (((c.setIfInBounds (k * 3) (.string (l[k]'(by omega)).1)).setIfInBounds (k * 3 + 1) (.int .i64 (l[k]'(by omega)).2.1)).setIfInBounds (k * 3 + 2) (.int .i64 (l[k]'(by omega)).2.2)), by omega, by go_num, (set_row (set_row (set_row hrow2.out (k * 3) _) (k * 3 + 1) _) (k * 3 + 2) _), by simpa using hcs, ?_, (((hbel2.out.setCell (Nat.le_refl _) _).setCell (Nat.le_refl _) _).setCell (Nat.le_refl _) _)⟩
        intro i hi hik
        by_cases e : i = k
        · subst e
          refine ⟨g, ?_, ?_⟩
          · intro j hj
            rcases (show j = 0 ∨ j = 1 ∨ j = 2 by omega) with rfl | rfl | rfl
            · rw [ge0]
              simp only [Array.getElem?_setIfInBounds, Array.size_setIfInBounds, hcs]
              repeat (first | rw [if_pos True.intro] | rw [if_pos (by omega)] | rw [if_neg (by omega)])
            · rw [ge1]
              simp only [Array.getElem?_setIfInBounds, Array.size_setIfInBounds, hcs]
              repeat (first | rw [if_pos True.intro] | rw [if_pos (by omega)] | rw [if_neg (by omega)])
            · rw [ge2]
              simp only [Array.getElem?_setIfInBounds, Array.size_setIfInBounds, hcs]
              repeat (first | rw [if_pos True.intro] | rw [if_pos (by omega)] | rw [if_neg (by omega)])
          · refine Lay.up (S := fun b => w.heap.size < b ∧ b < u.heap.size) (Lay.same (Lay.up HG.out ?_) HSM.out) ?_
            · intro b hb; exact ⟨by omega, hb.2⟩
            · intro b hb; exact ⟨hb.1, by rw [HSZ.out]; exact hb.2⟩
        · obtain ⟨g', h1, h2⟩ := hall.out i hi (by omega)
          refine ⟨g', fun j hj => ?_, ?_⟩
          · simp only [Array.getElem?_setIfInBounds]
            repeat rw [if_neg (by omega)]
            exact h1 j hj
          · refine Lay.up (S := fun b => w.heap.size < b ∧ b < u.heap.size) (Lay.same (Lay.up (Lay.same h2 (Same.of_below hbu (fun b hb => hb.2))) ?_) HSM.out) ?_
            · intro b hb; exact ⟨hb.1, by have := hb.2; omega⟩
            · intro b hb; exact ⟨hb.1, by rw [HSZ.out]; exact hb.2⟩
      case measure => simp [intOf]; omega
    · have hkn : k = n := by omega
      subst hkn
      go_wp2_with fail
      go_ret
      refine ⟨.slice (some ⟨w.heap.size, 0, none⟩) k k, rfl, ⟨_, _, by rw [en], by rw [en]; exact ⟨by unfold maxLen; omega, Nat.le_refl _, fun h => nomatch h⟩, fun i hi => ⟨w.heap.size, 0, rfl, ⟨Nat.le_refl _, hRw⟩, ?_⟩⟩, hbel.out⟩
      obtain ⟨g', h1, h2⟩ := hall.out i hi (by omega)
      refine ⟨g', fun j hj => ?_, Lay.up h2 (fun b hb => ⟨by omega, hb.2⟩)⟩
      rw [width_DClaimUse] at hj ⊢
      have e : 0 + i * 3 + j = i * 3 + j := by omega
      rw [e]
      exact (cell_row hrow.out _ _ (h1 j hj)).1

set_option maxRecDepth 100000 in
set_option maxHeartbeats 4000000 in
theorem toClaimWant_any (S : Nat → Prop) (a : DClaimWant) (c : Nat → Value) (w : World) (h : Lay.At S w a c) (hS : ∀ b, S b → b < w.heap.size) (hm : Lay.tot a ≤ 1048576) :
    Calls Tryz.prog 27 #[.agg #[c 0, c 1, c 2, c 3, c 4, c 5]] w fun e w' => ∃ g : Nat → Value, e = .returned (.agg #[g 0, g 1, g 2, g 3, g 4, g 5]) ∧ Lay.At (fun b => w.heap.size ≤ b ∧ b < w'.heap.size) w' a g ∧ Below w.heap.size w w' := by
  rw [tot_DClaimWant] at hm
  rw [at_DClaimWant] at h
  obtain ⟨⟨e0, z0, y0⟩, ⟨e1, z1, y1⟩, H2, H3, H4, H5⟩ := h
  obtain ⟨v2, e2⟩ : ∃ v, c 2 = v := ⟨_, rfl⟩
  rw [e2] at H2
  obtain ⟨v3, e3⟩ : ∃ v, c 3 = v := ⟨_, rfl⟩
  rw [e3] at H3
  obtain ⟨v4, e4⟩ : ∃ v, c 4 = v := ⟨_, rfl⟩
  rw [e4] at H4
  obtain ⟨v5, e5⟩ : ∃ v, c 5 = v := ⟨_, rfl⟩
  rw [e5] at H5
  rw [e0, e1, e2, e3, e4, e5]
  clear e0 e1 e2 e3 e4 e5
  have C0 : Hid (Cp 30 44 w (((w.alloc (.cells #[.int .i64 a.1, .int .i64 a.2.1, v2, v3, v4, v5] 30)).alloc (.cells #[.int .i64 0, .int .i64 0, .slice none 0 0, .slice none 0 0, .slice none 0 0, .slice none 0 0] 44)).alloc (.cells #[.int .i64 a.1, .int .i64 a.2.1, .slice none 0 0, .slice none 0 0, .slice none 0 0, .slice none 0 0] 44)) #[.int .i64 a.1, .int .i64 a.2.1, v2, v3, v4, v5] #[.int .i64 0, .int .i64 0, .slice none 0 0, .slice none 0 0, .slice none 0 0, .slice none 0 0] _) := cp_init 30 44 w #[.int .i64 a.1, .int .i64 a.2.1, v2, v3, v4, v5] #[.int .i64 0, .int .i64 0, .slice none 0 0, .slice none 0 0, .slice none 0 0, .slice none 0 0] #[.int .i64 a.1, .int .i64 a.2.1, .slice none 0 0, .slice none 0 0, .slice none 0 0, .slice none 0 0]
  go_enter Tryz.func27, Tryz.ntmps27
  go_wp2_with fail
  refine (toStringS_any S _ v2 _ (H2.same (Same.of_below C0.out.bel hS)) (fun b hb => by have := hS b hb; simp; omega) (by omega)).mono ?_
  rintro e w1 ⟨r2, rfl, L2, hb1⟩
  obtain ⟨so2, sc2, er2, _⟩ := id L2
  subst er2
  have l1 : w.heap.size + 1 + 1 + 1 ≤ w1.heap.size := by have := hb1.size; simpa using this
  have M2 : Hid (AtL (fun b => w.heap.size + 1 + 1 < b ∧ b < w1.heap.size) w1 a.2.2.1 (.slice so2 a.2.2.1.length sc2)) := L2.up (fun b hb => ⟨by have := hb.1; simp at this; omega, hb.2⟩)
  clear L2
  have C1 : Hid (Cp 30 44 w w1 #[.int .i64 a.1, .int .i64 a.2.1, v2, v3, v4, v5] #[.int .i64 0, .int .i64 0, .slice none 0 0, .slice none 0 0, .slice none 0 0, .slice none 0 0] _) := C0.out.next hb1
  obtain ⟨p2, q2⟩ := cell_row C1.out.out 2 _ rfl
  have C2 : Hid (Cp 30 44 w (w1.setCell ⟨w.heap.size + 1 + 1, 2, none⟩ (.slice so2 a.2.2.1.length sc2)) #[.int .i64 a.1, .int .i64 a.2.1, v2, v3, v4, v5] #[.int .i64 0, .int .i64 0, .slice none 0 0, .slice none 0 0, .slice none 0 0, .slice none 0 0] _) := C1.out.put 2 (.slice so2 a.2.2.1.length sc2)
  obtain ⟨ar3, _⟩ := cell_row C2.out.arg 3 (v3) rfl
  go_wp2_with fail
  refine (toClaimUseS_any S _ v3 _ (H3.same (Same.of_below C2.out.bel hS)) (fun b hb => by have := hS b hb; simp; omega) (by omega)).mono ?_
  rintro e w2 ⟨r3, rfl, L3, hb2⟩
  obtain ⟨so3, sc3, er3, _⟩ := id L3
  subst er3
  have l2 : w1.heap.size ≤ w2.heap.size := by have := hb2.size; simpa using this
  have M3 : Hid (AtL (fun b => w.heap.size + 1 + 1 < b ∧ b < w2.heap.size) w2 a.2.2.2.1 (.slice so3 a.2.2.2.1.length sc3)) := L3.up (fun b hb => ⟨by have := hb.1; simp at this; omega, hb.2⟩)
  clear L3
  have C3 : Hid (Cp 30 44 w w2 #[.int .i64 a.1, .int .i64 a.2.1, v2, v3, v4, v5] #[.int .i64 0, .int .i64 0, .slice none 0 0, .slice none 0 0, .slice none 0 0, .slice none 0 0] _) := C2.out.next hb2
  obtain ⟨p3, q3⟩ := cell_row C3.out.out 3 _ rfl
  have C4 : Hid (Cp 30 44 w (w2.setCell ⟨w.heap.size + 1 + 1, 3, none⟩ (.slice so3 a.2.2.2.1.length sc3)) #[.int .i64 a.1, .int .i64 a.2.1, v2, v3, v4, v5] #[.int .i64 0, .int .i64 0, .slice none 0 0, .slice none 0 0, .slice none 0 0, .slice none 0 0] _) := C3.out.put 3 (.slice so3 a.2.2.2.1.length sc3)
  obtain ⟨ar4, _⟩ := cell_row C4.out.arg 4 (v4) rfl
  go_wp2_with fail
  refine (toStringS_any S _ v4 _ (H4.same (Same.of_below C4.out.bel hS)) (fun b hb => by have := hS b hb; simp; omega) (by omega)).mono ?_
  rintro e w3 ⟨r4, rfl, L4, hb3⟩
  obtain ⟨so4, sc4, er4, _⟩ := id L4
  subst er4
  have l3 : w2.heap.size ≤ w3.heap.size := by have := hb3.size; simpa using this
  have M4 : Hid (AtL (fun b => w.heap.size + 1 + 1 < b ∧ b < w3.heap.size) w3 a.2.2.2.2.1 (.slice so4 a.2.2.2.2.1.length sc4)) := L4.up (fun b hb => ⟨by have := hb.1; simp at this; omega, hb.2⟩)
  clear L4
  have C5 : Hid (Cp 30 44 w w3 #[.int .i64 a.1, .int .i64 a.2.1, v2, v3, v4, v5] #[.int .i64 0, .int .i64 0, .slice none 0 0, .slice none 0 0, .slice none 0 0, .slice none 0 0] _) := C4.out.next hb3
  obtain ⟨p4, q4⟩ := cell_row C5.out.out 4 _ rfl
  have C6 : Hid (Cp 30 44 w (w3.setCell ⟨w.heap.size + 1 + 1, 4, none⟩ (.slice so4 a.2.2.2.2.1.length sc4)) #[.int .i64 a.1, .int .i64 a.2.1, v2, v3, v4, v5] #[.int .i64 0, .int .i64 0, .slice none 0 0, .slice none 0 0, .slice none 0 0, .slice none 0 0] _) := C5.out.put 4 (.slice so4 a.2.2.2.2.1.length sc4)
  obtain ⟨ar5, _⟩ := cell_row C6.out.arg 5 (v5) rfl
  go_wp2_with fail
  refine (toStringS_any S _ v5 _ (H5.same (Same.of_below C6.out.bel hS)) (fun b hb => by have := hS b hb; simp; omega) (by omega)).mono ?_
  rintro e w4 ⟨r5, rfl, L5, hb4⟩
  obtain ⟨so5, sc5, er5, _⟩ := id L5
  subst er5
  have l4 : w3.heap.size ≤ w4.heap.size := by have := hb4.size; simpa using this
  have M5 : Hid (AtL (fun b => w.heap.size + 1 + 1 < b ∧ b < w4.heap.size) w4 a.2.2.2.2.2 (.slice so5 a.2.2.2.2.2.length sc5)) := L5.up (fun b hb => ⟨by have := hb.1; simp at this; omega, hb.2⟩)
  clear L5
  have C7 : Hid (Cp 30 44 w w4 #[.int .i64 a.1, .int .i64 a.2.1, v2, v3, v4, v5] #[.int .i64 0, .int .i64 0, .slice none 0 0, .slice none 0 0, .slice none 0 0, .slice none 0 0] _) := C6.out.next hb4
  obtain ⟨p5, q5⟩ := cell_row C7.out.out 5 _ rfl
  have C8 : Hid (Cp 30 44 w (w4.setCell ⟨w.heap.size + 1 + 1, 5, none⟩ (.slice so5 a.2.2.2.2.2.length sc5)) #[.int .i64 a.1, .int .i64 a.2.1, v2, v3, v4, v5] #[.int .i64 0, .int .i64 0, .slice none 0 0, .slice none 0 0, .slice none 0 0, .slice none 0 0] _) := C7.out.put 5 (.slice so5 a.2.2.2.2.2.length sc5)
  obtain ⟨o0, _⟩ := cell_row C8.out.out 0 (.int .i64 a.1) rfl
  obtain ⟨rr0, rf0⟩ := cell_row C8.out.res 0 _ rfl
  obtain ⟨o1, _⟩ := cell_row C8.out.out 1 (.int .i64 a.2.1) rfl
  obtain ⟨rr1, rf1⟩ := cell_row C8.out.res 1 _ rfl
  obtain ⟨o2, _⟩ := cell_row C8.out.out 2 (.slice so2 a.2.2.1.length sc2) rfl
  obtain ⟨rr2, rf2⟩ := cell_row C8.out.res 2 _ rfl
  obtain ⟨o3, _⟩ := cell_row C8.out.out 3 (.slice so3 a.2.2.2.1.length sc3) rfl
  obtain ⟨rr3, rf3⟩ := cell_row C8.out.res 3 _ rfl
  obtain ⟨o4, _⟩ := cell_row C8.out.out 4 (.slice so4 a.2.2.2.2.1.length sc4) rfl
  obtain ⟨rr4, rf4⟩ := cell_row C8.out.res 4 _ rfl
  obtain ⟨o5, _⟩ := cell_row C8.out.out 5 (.slice so5 a.2.2.2.2.2.length sc5) rfl
  obtain ⟨rr5, rf5⟩ := cell_row C8.out.res 5 _ rfl
  have CF : Hid (Cp 30 44 w (((((((w4.setCell ⟨w.heap.size + 1 + 1, 5, none⟩ (.slice so5 a.2.2.2.2.2.length sc5)).setCell ⟨w.heap.size + 1, 0, none⟩ (.int .i64 a.1)).setCell ⟨w.heap.size + 1, 1, none⟩ (.int .i64 a.2.1)).setCell ⟨w.heap.size + 1, 2, none⟩ (.slice so2 a.2.2.1.length sc2)).setCell ⟨w.heap.size + 1, 3, none⟩ (.slice so3 a.2.2.2.1.length sc3)).setCell ⟨w.heap.size + 1, 4, none⟩ (.slice so4 a.2.2.2.2.1.length sc4)).setCell ⟨w.heap.size + 1, 5, none⟩ (.slice so5 a.2.2.2.2.2.length sc5)) #[.int .i64 a.1, .int .i64 a.2.1, v2, v3, v4, v5] _ _) := ((((((C8.out.ret 0 (.int .i64 a.1)).ret 1 (.int .i64 a.2.1)).ret 2 (.slice so2 a.2.2.1.length sc2)).ret 3 (.slice so3 a.2.2.2.1.length sc3)).ret 4 (.slice so4 a.2.2.2.2.1.length sc4)).ret 5 (.slice so5 a.2.2.2.2.2.length sc5))
  have f0 := (cell_row CF.out.res 0 (.int .i64 a.1) rfl).1
  have f1 := (cell_row CF.out.res 1 (.int .i64 a.2.1) rfl).1
  have f2 := (cell_row CF.out.res 2 (.slice so2 a.2.2.1.length sc2) rfl).1
  have f3 := (cell_row CF.out.res 3 (.slice so3 a.2.2.2.1.length sc3) rfl).1
  have f4 := (cell_row CF.out.res 4 (.slice so4 a.2.2.2.2.1.length sc4) rfl).1
  have f5 := (cell_row CF.out.res 5 (.slice so5 a.2.2.2.2.2.length sc5) rfl).1
  have hsz : Hid ((((((((w4.setCell ⟨w.heap.size + 1 + 1, 5, none⟩ (.slice so5 a.2.2.2.2.2.length sc5)).setCell ⟨w.heap.size + 1, 0, none⟩ (.int .i64 a.1)).setCell ⟨w.heap.size + 1, 1, none⟩ (.int .i64 a.2.1)).setCell ⟨w.heap.size + 1, 2, none⟩ (.slice so2 a.2.2.1.length sc2)).setCell ⟨w.heap.size + 1, 3, none⟩ (.slice so3 a.2.2.2.1.length sc3)).setCell ⟨w.heap.size + 1, 4, none⟩ (.slice so4 a.2.2.2.2.1.length sc4)).setCell ⟨w.heap.size + 1, 5, none⟩ (.slice so5 a.2.2.2.2.2.length sc5)).heap.size = w4.heap.size) := by simp [Hid]
  have S2 : Same (fun b => w.heap.size + 1 + 1 < b ∧ b < w1.heap.size) w1 (((((((w4.setCell ⟨w.heap.size + 1 + 1, 5, none⟩ (.slice so5 a.2.2.2.2.2.length sc5)).setCell ⟨w.heap.size + 1, 0, none⟩ (.int .i64 a.1)).setCell ⟨w.heap.size + 1, 1, none⟩ (.int .i64 a.2.1)).setCell ⟨w.heap.size + 1, 2, none⟩ (.slice so2 a.2.2.1.length sc2)).setCell ⟨w.heap.size + 1, 3, none⟩ (.slice so3 a.2.2.2.1.length sc3)).setCell ⟨w.heap.size + 1, 4, none⟩ (.slice so4 a.2.2.2.2.1.length sc4)).setCell ⟨w.heap.size + 1, 5, none⟩ (.slice so5 a.2.2.2.2.2.length sc5)) := (((((((((((((Same.of_set _ ⟨w.heap.size + 1 + 1, 2, none⟩ (.slice so2 a.2.2.1.length sc2) (fun h => absurd h.1 (Nat.lt_irrefl _))).trans (Same.of_below hb2 (fun b hb => by have := hb.2; simp; omega))).trans (Same.of_set _ ⟨w.heap.size + 1 + 1, 3, none⟩ (.slice so3 a.2.2.2.1.length sc3) (fun h => absurd h.1 (Nat.lt_irrefl _)))).trans (Same.of_below hb3 (fun b hb => by have := hb.2; simp; omega))).trans (Same.of_set _ ⟨w.heap.size + 1 + 1, 4, none⟩ (.slice so4 a.2.2.2.2.1.length sc4) (fun h => absurd h.1 (Nat.lt_irrefl _)))).trans (Same.of_below hb4 (fun b hb => by have := hb.2; simp; omega))).trans (Same.of_set _ ⟨w.heap.size + 1 + 1, 5, none⟩ (.slice so5 a.2.2.2.2.2.length sc5) (fun h => absurd h.1 (Nat.lt_irrefl _)))).trans (Same.of_set _ ⟨w.heap.size + 1, 0, none⟩ (.int .i64 a.1) (fun h => by have := h.1; simp at this; omega))).trans (Same.of_set _ ⟨w.heap.size + 1, 1, none⟩ (.int .i64 a.2.1) (fun h => by have := h.1; simp at this; omega))).trans (Same.of_set _ ⟨w.heap.size + 1, 2, none⟩ (.slice so2 a.2.2.1.length sc2) (fun h => by have := h.1; simp at this; omega))).trans (Same.of_set _ ⟨w.heap.size + 1, 3, none⟩ (.slice so3 a.2.2.2.1.length sc3) (fun h => by have := h.1; simp at this; omega))).trans (Same.of_set _ ⟨w.heap.size + 1, 4, none⟩ (.slice so4 a.2.2.2.2.1.length sc4) (fun h => by have := h.1; simp at this; omega))).trans (Same.of_set _ ⟨w.heap.size + 1, 5, none⟩ (.slice so5 a.2.2.2.2.2.length sc5) (fun h => by have := h.1; simp at this; omega)))
  have G2 := (M2.out.same S2).up (S' := fun b => w.heap.size ≤ b ∧ b < (((((((w4.setCell ⟨w.heap.size + 1 + 1, 5, none⟩ (.slice so5 a.2.2.2.2.2.length sc5)).setCell ⟨w.heap.size + 1, 0, none⟩ (.int .i64 a.1)).setCell ⟨w.heap.size + 1, 1, none⟩ (.int .i64 a.2.1)).setCell ⟨w.heap.size + 1, 2, none⟩ (.slice so2 a.2.2.1.length sc2)).setCell ⟨w.heap.size + 1, 3, none⟩ (.slice so3 a.2.2.2.1.length sc3)).setCell ⟨w.heap.size + 1, 4, none⟩ (.slice so4 a.2.2.2.2.1.length sc4)).setCell ⟨w.heap.size + 1, 5, none⟩ (.slice so5 a.2.2.2.2.2.length sc5)).heap.size) (fun b hb => ⟨by have := hb.1; omega, by rw [hsz.out]; have := hb.2; omega⟩)
  have S3 : Same (fun b => w.heap.size + 1 + 1 < b ∧ b < w2.heap.size) w2 (((((((w4.setCell ⟨w.heap.size + 1 + 1, 5, none⟩ (.slice so5 a.2.2.2.2.2.length sc5)).setCell ⟨w.heap.size + 1, 0, none⟩ (.int .i64 a.1)).setCell ⟨w.heap.size + 1, 1, none⟩ (.int .i64 a.2.1)).setCell ⟨w.heap.size + 1, 2, none⟩ (.slice so2 a.2.2.1.length sc2)).setCell ⟨w.heap.size + 1, 3, none⟩ (.slice so3 a.2.2.2.1.length sc3)).setCell ⟨w.heap.size + 1, 4, none⟩ (.slice so4 a.2.2.2.2.1.length sc4)).setCell ⟨w.heap.size + 1, 5, none⟩ (.slice so5 a.2.2.2.2.2.length sc5)) := (((((((((((Same.of_set _ ⟨w.heap.size + 1 + 1, 3, none⟩ (.slice so3 a.2.2.2.1.length sc3) (fun h => absurd h.1 (Nat.lt_irrefl _))).trans (Same.of_below hb3 (fun b hb => by have := hb.2; simp; omega))).trans (Same.of_set _ ⟨w.heap.size + 1 + 1, 4, none⟩ (.slice so4 a.2.2.2.2.1.length sc4) (fun h => absurd h.1 (Nat.lt_irrefl _)))).trans (Same.of_below hb4 (fun b hb => by have := hb.2; simp; omega))).trans (Same.of_set _ ⟨w.heap.size + 1 + 1, 5, none⟩ (.slice so5 a.2.2.2.2.2.length sc5) (fun h => absurd h.1 (Nat.lt_irrefl _)))).trans (Same.of_set _ ⟨w.heap.size + 1, 0, none⟩ (.int .i64 a.1) (fun h => by have := h.1; simp at this; omega))).trans (Same.of_set _ ⟨w.heap.size + 1, 1, none⟩ (.int .i64 a.2.1) (fun h => by have := h.1; simp at this; omega))).trans (Same.of_set _ ⟨w.heap.size + 1, 2, none⟩ (.slice so2 a.2.2.1.length sc2) (fun h => by have := h.1; simp at this; omega))).trans (Same.of_set _ ⟨w.heap.size + 1, 3, none⟩ (.slice so3 a.2.2.2.1.length sc3) (fun h => by have := h.1; simp at this; omega))).trans (Same.of_set _ ⟨w.heap.size + 1, 4, none⟩ (.slice so4 a.2.2.2.2.1.length sc4) (fun h => by have := h.1; simp at this; omega))).trans (Same.of_set _ ⟨w.heap.size + 1, 5, none⟩ (.slice so5 a.2.2.2.2.2.length sc5) (fun h => by have := h.1; simp at this; omega)))
  have G3 := (M3.out.same S3).up (S' := fun b => w.heap.size ≤ b ∧ b < (((((((w4.setCell ⟨w.heap.size + 1 + 1, 5, none⟩ (.slice so5 a.2.2.2.2.2.length sc5)).setCell ⟨w.heap.size + 1, 0, none⟩ (.int .i64 a.1)).setCell ⟨w.heap.size + 1, 1, none⟩ (.int .i64 a.2.1)).setCell ⟨w.heap.size + 1, 2, none⟩ (.slice so2 a.2.2.1.length sc2)).setCell ⟨w.heap.size + 1, 3, none⟩ (.slice so3 a.2.2.2.1.length sc3)).setCell ⟨w.heap.size + 1, 4, none⟩ (.slice so4 a.2.2.2.2.1.length sc4)).setCell ⟨w.heap.size + 1, 5, none⟩ (.slice so5 a.2.2.2.2.2.length sc5)).heap.size) (fun b hb => ⟨by have := hb.1; omega, by rw [hsz.out]; have := hb.2; omega⟩)
  have S4 : Same (fun b => w.heap.size + 1 + 1 < b ∧ b < w3.heap.size) w3 (((((((w4.setCell ⟨w.heap.size + 1 + 1, 5, none⟩ (.slice so5 a.2.2.2.2.2.length sc5)).setCell ⟨w.heap.size + 1, 0, none⟩ (.int .i64 a.1)).setCell ⟨w.heap.size + 1, 1, none⟩ (.int .i64 a.2.1)).setCell ⟨w.heap.size + 1, 2, none⟩ (.slice so2 a.2.2.1.length sc2)).setCell ⟨w.heap.size + 1, 3, none⟩ (.slice so3 a.2.2.2.1.length sc3)).setCell ⟨w.heap.size + 1, 4, none⟩ (.slice so4 a.2.2.2.2.1.length sc4)).setCell ⟨w.heap.size + 1, 5, none⟩ (.slice so5 a.2.2.2.2.2.length sc5)) := (((((((((Same.of_set _ ⟨w.heap.size + 1 + 1, 4, none⟩ (.slice so4 a.2.2.2.2.1.length sc4) (fun h => absurd h.1 (Nat.lt_irrefl _))).trans (Same.of_below hb4 (fun b hb => by have := hb.2; simp; omega))).trans (Same.of_set _ ⟨w.heap.size + 1 + 1, 5, none⟩ (.slice so5 a.2.2.2.2.2.length sc5) (fun h => absurd h.1 (Nat.lt_irrefl _)))).trans (Same.of_set _ ⟨w.heap.size + 1, 0, none⟩ (.int .i64 a.1) (fun h => by have := h.1; simp at this; omega))).trans (Same.of_set _ ⟨w.heap.size + 1, 1, none⟩ (.int .i64 a.2.1) (fun h => by have := h.1; simp at this; omega))).trans (Same.of_set _ ⟨w.heap.size + 1, 2, none⟩ (.slice so2 a.2.2.1.length sc2) (fun h => by have := h.1; simp at this; omega))).trans (Same.of_set _ ⟨w.heap.size + 1, 3, none⟩ (.slice so3 a.2.2.2.1.length sc3) (fun h => by have := h.1; simp at this; omega))).trans (Same.of_set _ ⟨w.heap.size + 1, 4, none⟩ (.slice so4 a.2.2.2.2.1.length sc4) (fun h => by have := h.1; simp at this; omega))).trans (Same.of_set _ ⟨w.heap.size + 1, 5, none⟩ (.slice so5 a.2.2.2.2.2.length sc5) (fun h => by have := h.1; simp at this; omega)))
  have G4 := (M4.out.same S4).up (S' := fun b => w.heap.size ≤ b ∧ b < (((((((w4.setCell ⟨w.heap.size + 1 + 1, 5, none⟩ (.slice so5 a.2.2.2.2.2.length sc5)).setCell ⟨w.heap.size + 1, 0, none⟩ (.int .i64 a.1)).setCell ⟨w.heap.size + 1, 1, none⟩ (.int .i64 a.2.1)).setCell ⟨w.heap.size + 1, 2, none⟩ (.slice so2 a.2.2.1.length sc2)).setCell ⟨w.heap.size + 1, 3, none⟩ (.slice so3 a.2.2.2.1.length sc3)).setCell ⟨w.heap.size + 1, 4, none⟩ (.slice so4 a.2.2.2.2.1.length sc4)).setCell ⟨w.heap.size + 1, 5, none⟩ (.slice so5 a.2.2.2.2.2.length sc5)).heap.size) (fun b hb => ⟨by have := hb.1; omega, by rw [hsz.out]; have := hb.2; omega⟩)
  have S5 : Same (fun b => w.heap.size + 1 + 1 < b ∧ b < w4.heap.size) w4 (((((((w4.setCell ⟨w.heap.size + 1 + 1, 5, none⟩ (.slice so5 a.2.2.2.2.2.length sc5)).setCell ⟨w.heap.size + 1, 0, none⟩ (.int .i64 a.1)).setCell ⟨w.heap.size + 1, 1, none⟩ (.int .i64 a.2.1)).setCell ⟨w.heap.size + 1, 2, none⟩ (.slice so2 a.2.2.1.length sc2)).setCell ⟨w.heap.size + 1, 3, none⟩ (.slice so3 a.2.2.2.1.length sc3)).setCell ⟨w.heap.size + 1, 4, none⟩ (.slice so4 a.2.2.2.2.1.length sc4)).setCell ⟨w.heap.size + 1, 5, none⟩ (.slice so5 a.2.2.2.2.2.length sc5)) := (((((((Same.of_set _ ⟨w.heap.size + 1 + 1, 5, none⟩ (.slice so5 a.2.2.2.2.2.length sc5) (fun h => absurd h.1 (Nat.lt_irrefl _))).trans (Same.of_set _ ⟨w.heap.size + 1, 0, none⟩ (.int .i64 a.1) (fun h => by have := h.1; simp at this; omega))).trans (Same.of_set _ ⟨w.heap.size + 1, 1, none⟩ (.int .i64 a.2.1) (fun h => by have := h.1; simp at this; omega))).trans (Same.of_set _ ⟨w.heap.size + 1, 2, none⟩ (.slice so2 a.2.2.1.length sc2) (fun h => by have := h.1; simp at this; omega))).trans (Same.of_set _ ⟨w.heap.size + 1, 3, none⟩ (.slice so3 a.2.2.2.1.length sc3) (fun h => by have := h.1; simp at this; omega))).trans (Same.of_set _ ⟨w.heap.size + 1, 4, none⟩ (.slice so4 a.2.2.2.2.1.length sc4) (fun h => by have := h.1; simp at this; omega))).trans (Same.of_set _ ⟨w.heap.size + 1, 5, none⟩ (.slice so5 a.2.2.2.2.2.length sc5) (fun h => by have := h.1; simp at this; omega)))
  have G5 := (M5.out.same S5).up (S' := fun b => w.heap.size ≤ b ∧ b < (((((((w4.setCell ⟨w.heap.size + 1 + 1, 5, none⟩ (.slice so5 a.2.2.2.2.2.length sc5)).setCell ⟨w.heap.size + 1, 0, none⟩ (.int .i64 a.1)).setCell ⟨w.heap.size + 1, 1, none⟩ (.int .i64 a.2.1)).setCell ⟨w.heap.size + 1, 2, none⟩ (.slice so2 a.2.2.1.length sc2)).setCell ⟨w.heap.size + 1, 3, none⟩ (.slice so3 a.2.2.2.1.length sc3)).setCell ⟨w.heap.size + 1, 4, none⟩ (.slice so4 a.2.2.2.2.1.length sc4)).setCell ⟨w.heap.size + 1, 5, none⟩ (.slice so5 a.2.2.2.2.2.length sc5)).heap.size) (fun b hb => ⟨by have := hb.1; omega, by rw [hsz.out]; have := hb.2; omega⟩)
  go_wp2_with fail
  exact bodyPost_ret (v := .agg #[.int .i64 a.1, .int .i64 a.2.1, .slice so2 a.2.2.1.length sc2, .slice so3 a.2.2.2.1.length sc3, .slice so4 a.2.2.2.2.1.length sc4, .slice so5 a.2.2.2.2.2.length sc5]) (by simp [results, Tryz.results27, go_sem, f0, f1, f2, f3, f4, f5]) rfl ⟨cs [.int .i64 a.1, .int .i64 a.2.1, .slice so2 a.2.2.1.length sc2, .slice so3 a.2.2.2.1.length sc3, .slice so4 a.2.2.2.2.1.length sc4, .slice so5 a.2.2.2.2.2.length sc5], rfl, at_DClaimWant.2 ⟨⟨rfl, z0, y0⟩, ⟨rfl, z1, y1⟩, G2, G3, G4, G5⟩, CF.out.bel⟩

end Go.Proofs.YtciembgenlcogaeGreat.C

/-
  Contracts of the laws' own comparing of data that hold the same.
-/
namespace Go.Proofs.YtciembgenlcogaeGreat.C
open Go.RowKit

set_option maxRecDepth 100000 in
set_option maxHeartbeats 4000000 in
theorem eqClaimUse_any (S S' : Nat → Prop) (a : DClaimUse) (c c' : Nat → Value) (w : World) (h : Lay.At S w a c) (h' : Lay.At S' w a c') (_hS : ∀ b, S b → b < w.heap.size) (_hS' : ∀ b, S' b → b < w.heap.size) :
    Calls Tryz.prog 90 #[.agg #[c 0, c 1, c 2], .agg #[c' 0, c' 1, c' 2]] w fun e w' => e = .returned (.bool true) ∧ Below w.heap.size w w' := by
  rw [at_DClaimUse] at h
  obtain ⟨⟨ep0, _⟩, ⟨ep1, _, _⟩, ⟨ep2, _, _⟩⟩ := h
  rw [ep0, ep1, ep2]
  clear ep0 ep1 ep2
  rw [at_DClaimUse] at h'
  obtain ⟨⟨eq0, _⟩, ⟨eq1, _, _⟩, ⟨eq2, _, _⟩⟩ := h'
  rw [eq0, eq1, eq2]
  clear eq0 eq1 eq2
  have k0 : Hid (Below w.heap.size w ((w.alloc (.cells #[.string a.1, .int .i64 a.2.1, .int .i64 a.2.2] 108)).alloc (.cells #[.string a.1, .int .i64 a.2.1, .int .i64 a.2.2] 108))) := ((Below.refl _ _).alloc (Nat.le_refl _) _).alloc (by simp) _
  go_enter Tryz.func90, Tryz.ntmps90
  go_wp2
  go_ret
  exact ⟨rfl, k0.out⟩
open Go.Sort in
theorem eqClaimUseq (S S' : Nat → Prop) (a : DClaimUse) (c c' : Nat → Value) (wr : World) (h : Lay.At S wr a c) (h' : Lay.At S' wr a c') (hS : ∀ b, S b → b < wr.heap.size) (hS' : ∀ b, S' b → b < wr.heap.size) (d : Nat) (os : Array Obj) : Calls Tryz.prog 90 #[.agg #[c 0, c 1, c 2], .agg #[c' 0, c' 1, c' 2]] (grow (redrawn wr d) os) fun e w'' => e = .returned (.bool true) ∧ ∃ p : Regrown, w'' = grow (redrawn wr p.d) p.os :=
  Calls.regrown_of (eqClaimUse_any S S' a c c' _ (Lay.same h (Same.of_below (below_regrown wr d os) hS)) (Lay.same h' (Same.of_below (below_regrown wr d os) hS')) (fun b hb => Nat.lt_of_lt_of_le (hS b hb) (below_regrown wr d os).size) (fun b hb => Nat.lt_of_lt_of_le (hS' b hb) (below_regrown wr d os).size))

set_option maxRecDepth 100000 in
set_option maxHeartbeats 4000000 in
theorem eqStringS_any (S S' : Nat → Prop) (l : List ByteArray) (va vb : Value) (w : World) (ha : AtL S w l va) (hb : AtL S' w l vb) (hS : ∀ b, S b → b < w.heap.size) (hS' : ∀ b, S' b → b < w.heap.size) :
    Calls Tryz.prog 31 #[va, vb] w fun e w' => e = .returned (.bool true) ∧ Below w.heap.size w w' := by
  obtain ⟨oa, ca, rfl, hn, hca⟩ := ha
  obtain ⟨ob, cb, rfl, _, hcb⟩ := hb
  obtain ⟨n, en⟩ : ∃ n, l.length = n := ⟨_, rfl⟩
  rw [en] at hn
  rw [en]
  unfold maxLen at hn
  have HA : Hid _ := hca
  have HB : Hid _ := hcb
  clear hca hcb
  go_enter Tryz.func31, Tryz.ntmps31
  go_wp2
  go_loopw [5] (fun i wr => ∃ k : Nat, k ≤ n ∧ i = .int .i64 k ∧ Hid (Below w.heap.size w wr)) (fun i _ => n - (intOf i).toNat)
  case atStart => exact ⟨0, Nat.zero_le _, rfl, Below.refl _ _⟩
  case round =>
    obtain ⟨k, hk, rfl, hbel⟩ := hrel
    have hs := hbel.out.size
    by_cases hlt : k < n
    · obtain ⟨ba, fa, rfl, hba, cc, hxa, hata⟩ := HA.out k (by omega)
      obtain ⟨bb, fb, rfl, hbb, dd, hxb, hatb⟩ := HB.out k (by omega)
      have hba' := hS ba hba
      have hbb' := hS' bb hbb
      rw [width_str] at hxa hxb
      have a0 : wr.cell? ⟨ba, fa + k, none⟩ = some (cc 0) := (hbel.out.cell (p := ⟨ba, fa + k, none⟩) (by show ba < _; omega)).trans (by simpa using hxa 0 (by omega))
      have c0 : wr.cell? ⟨bb, fb + k, none⟩ = some (dd 0) := (hbel.out.cell (p := ⟨bb, fb + k, none⟩) (by show bb < _; omega)).trans (by simpa using hxb 0 (by omega))
      rw [at_str] at hata hatb
      rw [hata.1] at a0
      rw [hatb.1] at c0
      clear hata hatb
      clear hxa hxb
      have qa0 := fun d os => cell_regrown a0 d os
      have qc0 := fun d os => cell_regrown c0 d os
      go_wp2
      refine wp_region_quiet_below (by kernel_rfl) (by kernel_rfl) ?_
      repeat (first | go_big_quiet_step (fail) | quiet_step (fail))
      refine wpQuiet_nil ?_
      intro _ hw'
      obtain ⟨⟨dq, osq⟩, hw''⟩ := hw'
      subst hw''
      go_wp2
      go_roundw
      case rel => exact ⟨k + 1, by omega, by go_num, hbel.out.trans ((below_regrown _ dq osq).mono hs)⟩
      case measure => simp [intOf]; omega
    · go_wp2
      go_ret
      exact ⟨rfl, hbel.out⟩

set_option maxRecDepth 100000 in
set_option maxHeartbeats 4000000 in
theorem eqClaimUseS_any (S S' : Nat → Prop) (l : List DClaimUse) (va vb : Value) (w : World) (ha : AtL S w l va) (hb : AtL S' w l vb) (hS : ∀ b, S b → b < w.heap.size) (hS' : ∀ b, S' b → b < w.heap.size) :
    Calls Tryz.prog 66 #[va, vb] w fun e w' => e = .returned (.bool true) ∧ Below w.heap.size w w' := by
  obtain ⟨oa, ca, rfl, hn, hca⟩ := ha
  obtain ⟨ob, cb, rfl, _, hcb⟩ := hb
  obtain ⟨n, en⟩ : ∃ n, l.length = n := ⟨_, rfl⟩
  rw [en] at hn
  rw [en]
  unfold maxLen at hn
  have HA : Hid _ := hca
  have HB : Hid _ := hcb
  clear hca hcb
  go_enter Tryz.func66, Tryz.ntmps66
  go_wp2
  go_loopw [5] (fun i wr => ∃ k : Nat, k ≤ n ∧ i = .int .i64 k ∧ Hid (Below w.heap.size w wr)) (fun i _ => n - (intOf i).toNat)
  case atStart => exact ⟨0, Nat.zero_le _, rfl, Below.refl _ _⟩
  case round =>
    obtain ⟨k, hk, rfl, hbel⟩ := hrel
    have hs := hbel.out.size
    by_cases hlt : k < n
    · obtain ⟨ba, fa, rfl, hba, cc, hxa, hata⟩ := HA.out k (by omega)
      obtain ⟨bb, fb, rfl, hbb, dd, hxb, hatb⟩ := HB.out k (by omega)
      have hba' := hS ba hba
      have hbb' := hS' bb hbb
      rw [width_DClaimUse] at hxa hxb
      have a0 : wr.cell? ⟨ba, fa + k * 3, none⟩ = some (cc 0) := (hbel.out.cell (p := ⟨ba, fa + k * 3, none⟩) (by show ba < _; omega)).trans (by simpa using hxa 0 (by omega))
      have a1 : wr.cell? ⟨ba, fa + k * 3 + 1, none⟩ = some (cc 1) := (hbel.out.cell (p := ⟨ba, fa + k * 3 + 1, none⟩) (by show ba < _; omega)).trans (by simpa using hxa 1 (by omega))
      have a2 : wr.cell? ⟨ba, fa + k * 3 + 2, none⟩ = some (cc 2) := (hbel.out.cell (p := ⟨ba, fa + k * 3 + 2, none⟩) (by show ba < _; omega)).trans (by simpa using hxa 2 (by omega))
      have c0 : wr.cell? ⟨bb, fb + k * 3, none⟩ = some (dd 0) := (hbel.out.cell (p := ⟨bb, fb + k * 3, none⟩) (by show bb < _; omega)).trans (by simpa using hxb 0 (by omega))
      have c1 : wr.cell? ⟨bb, fb + k * 3 + 1, none⟩ = some (dd 1) := (hbel.out.cell (p := ⟨bb, fb + k * 3 + 1, none⟩) (by show bb < _; omega)).trans (by simpa using hxb 1 (by omega))
      have c2 : wr.cell? ⟨bb, fb + k * 3 + 2, none⟩ = some (dd 2) := (hbel.out.cell (p := ⟨bb, fb + k * 3 + 2, none⟩) (by show bb < _; omega)).trans (by simpa using hxb 2 (by omega))
      have HAA : Hid (Lay.At S wr (l[k]'(by omega)) cc) := Lay.same hata (Same.of_below hbel.out hS)
      have HBB : Hid (Lay.At S' wr (l[k]'(by omega)) dd) := Lay.same hatb (Same.of_below hbel.out hS')
      clear hata hatb
      have hSr : ∀ b, S b → b < wr.heap.size := fun b hb => Nat.lt_of_lt_of_le (hS b hb) hs
      have hSr' : ∀ b, S' b → b < wr.heap.size := fun b hb => Nat.lt_of_lt_of_le (hS' b hb) hs
      clear hxa hxb
      have qa0 := fun d os => cell_regrown a0 d os
      have qa1 := fun d os => cell_regrown a1 d os
      have qa2 := fun d os => cell_regrown a2 d os
      have qc0 := fun d os => cell_regrown c0 d os
      have qc1 := fun d os => cell_regrown c1 d os
      have qc2 := fun d os => cell_regrown c2 d os
      go_wp2
      refine wp_region_quiet_below (by kernel_rfl) (by kernel_rfl) ?_
      repeat (first | go_big_quiet_step (with_reducible exact eqClaimUseq S S' _ _ _ _ HAA.out HBB.out hSr hSr' _ _) | quiet_step (with_reducible exact eqClaimUseq S S' _ _ _ _ HAA.out HBB.out hSr hSr' _ _))
      refine wpQuiet_nil ?_
      intro _ hw'
      obtain ⟨⟨dq, osq⟩, hw''⟩ := hw'
      subst hw''
      go_wp2
      go_roundw
      case rel => exact ⟨k + 1, by omega, by go_num, hbel.out.trans ((below_regrown _ dq osq).mono hs)⟩
      case measure => simp [intOf]; omega
    · go_wp2
      go_ret
      exact ⟨rfl, hbel.out⟩

set_option maxRecDepth 100000 in
set_option maxHeartbeats 4000000 in
theorem eqClaimWant_any (S S' : Nat → Prop) (a : DClaimWant) (c c' : Nat → Value) (w : World) (h : Lay.At S w a c) (h' : Lay.At S' w a c') (hS : ∀ b, S b → b < w.heap.size) (hS' : ∀ b, S' b → b < w.heap.size) :
    Calls Tryz.prog 35 #[.agg #[c 0, c 1, c 2, c 3, c 4, c 5], .agg #[c' 0, c' 1, c' 2, c' 3, c' 4, c' 5]] w fun e w' => e = .returned (.bool true) ∧ Below w.heap.size w w' := by
  rw [at_DClaimWant] at h
  obtain ⟨⟨ep0, _, _⟩, ⟨ep1, _, _⟩, Hp2, Hp3, Hp4, Hp5⟩ := h
  obtain ⟨vp2, ep2⟩ : ∃ v, c 2 = v := ⟨_, rfl⟩
  rw [ep2] at Hp2
  obtain ⟨vp3, ep3⟩ : ∃ v, c 3 = v := ⟨_, rfl⟩
  rw [ep3] at Hp3
  obtain ⟨vp4, ep4⟩ : ∃ v, c 4 = v := ⟨_, rfl⟩
  rw [ep4] at Hp4
  obtain ⟨vp5, ep5⟩ : ∃ v, c 5 = v := ⟨_, rfl⟩
  rw [ep5] at Hp5
  rw [ep0, ep1, ep2, ep3, ep4, ep5]
  clear ep0 ep1 ep2 ep3 ep4 ep5
  rw [at_DClaimWant] at h'
  obtain ⟨⟨eq0, _, _⟩, ⟨eq1, _, _⟩, Hq2, Hq3, Hq4, Hq5⟩ := h'
  obtain ⟨vq2, eq2⟩ : ∃ v, c' 2 = v := ⟨_, rfl⟩
  rw [eq2] at Hq2
  obtain ⟨vq3, eq3⟩ : ∃ v, c' 3 = v := ⟨_, rfl⟩
  rw [eq3] at Hq3
  obtain ⟨vq4, eq4⟩ : ∃ v, c' 4 = v := ⟨_, rfl⟩
  rw [eq4] at Hq4
  obtain ⟨vq5, eq5⟩ : ∃ v, c' 5 = v := ⟨_, rfl⟩
  rw [eq5] at Hq5
  rw [eq0, eq1, eq2, eq3, eq4, eq5]
  clear eq0 eq1 eq2 eq3 eq4 eq5
  have k0 : Hid (Below w.heap.size w ((w.alloc (.cells #[.int .i64 a.1, .int .i64 a.2.1, vp2, vp3, vp4, vp5] 44)).alloc (.cells #[.int .i64 a.1, .int .i64 a.2.1, vq2, vq3, vq4, vq5] 44))) := ((Below.refl _ _).alloc (Nat.le_refl _) _).alloc (by simp) _
  go_enter Tryz.func35, Tryz.ntmps35
  go_wp2_with fail
  refine (eqStringS_any S S' _ vp2 vq2 _ (Hp2.same (Same.of_below k0.out hS)) (Hq2.same (Same.of_below k0.out hS')) (fun b hb => by have := hS b hb; simp; omega) (fun b hb => by have := hS' b hb; simp; omega)).mono ?_
  rintro e w1 ⟨rfl, hb1⟩
  have k1 : Hid (Below w.heap.size w w1) := k0.out.trans (hb1.mono (by simp; omega))
  have x1_3 : w1.cell? ⟨w.heap.size, 3, none⟩ = some (vp3) := (hb1.cell (p := ⟨w.heap.size, 3, none⟩) (by simp; omega)).trans (cell_past (cell_row (heap_alloc_new w (.cells #[.int .i64 a.1, .int .i64 a.2.1, vp2, vp3, vp4, vp5] 44)) 3 _ rfl).1 (by simp) _)
  have y1_3 : w1.cell? ⟨w.heap.size + 1, 3, none⟩ = some (vq3) := (hb1.cell (p := ⟨w.heap.size + 1, 3, none⟩) (by simp)).trans (by simp)
  have x1_4 : w1.cell? ⟨w.heap.size, 4, none⟩ = some (vp4) := (hb1.cell (p := ⟨w.heap.size, 4, none⟩) (by simp; omega)).trans (cell_past (cell_row (heap_alloc_new w (.cells #[.int .i64 a.1, .int .i64 a.2.1, vp2, vp3, vp4, vp5] 44)) 4 _ rfl).1 (by simp) _)
  have y1_4 : w1.cell? ⟨w.heap.size + 1, 4, none⟩ = some (vq4) := (hb1.cell (p := ⟨w.heap.size + 1, 4, none⟩) (by simp)).trans (by simp)
  have x1_5 : w1.cell? ⟨w.heap.size, 5, none⟩ = some (vp5) := (hb1.cell (p := ⟨w.heap.size, 5, none⟩) (by simp; omega)).trans (cell_past (cell_row (heap_alloc_new w (.cells #[.int .i64 a.1, .int .i64 a.2.1, vp2, vp3, vp4, vp5] 44)) 5 _ rfl).1 (by simp) _)
  have y1_5 : w1.cell? ⟨w.heap.size + 1, 5, none⟩ = some (vq5) := (hb1.cell (p := ⟨w.heap.size + 1, 5, none⟩) (by simp)).trans (by simp)
  have s1 : w.heap.size + 2 ≤ w1.heap.size := by have := hb1.size; simp at this; omega
  go_wp2_with fail
  refine (eqClaimUseS_any S S' _ vp3 vq3 _ (Hp3.same (Same.of_below k1.out hS)) (Hq3.same (Same.of_below k1.out hS')) (fun b hb => by have := hS b hb; omega) (fun b hb => by have := hS' b hb; omega)).mono ?_
  rintro e w2 ⟨rfl, hb2⟩
  have k2 : Hid (Below w.heap.size w w2) := k1.out.trans (hb2.mono (by omega))
  have x2_4 : w2.cell? ⟨w.heap.size, 4, none⟩ = some (vp4) := (hb2.cell (p := ⟨w.heap.size, 4, none⟩) (by show w.heap.size < _; omega)).trans x1_4
  have y2_4 : w2.cell? ⟨w.heap.size + 1, 4, none⟩ = some (vq4) := (hb2.cell (p := ⟨w.heap.size + 1, 4, none⟩) (by show w.heap.size + 1 < _; omega)).trans y1_4
  have x2_5 : w2.cell? ⟨w.heap.size, 5, none⟩ = some (vp5) := (hb2.cell (p := ⟨w.heap.size, 5, none⟩) (by show w.heap.size < _; omega)).trans x1_5
  have y2_5 : w2.cell? ⟨w.heap.size + 1, 5, none⟩ = some (vq5) := (hb2.cell (p := ⟨w.heap.size + 1, 5, none⟩) (by show w.heap.size + 1 < _; omega)).trans y1_5
  have s2 : w.heap.size + 2 ≤ w2.heap.size := by have := hb2.size; omega
  go_wp2_with fail
  refine (eqStringS_any S S' _ vp4 vq4 _ (Hp4.same (Same.of_below k2.out hS)) (Hq4.same (Same.of_below k2.out hS')) (fun b hb => by have := hS b hb; omega) (fun b hb => by have := hS' b hb; omega)).mono ?_
  rintro e w3 ⟨rfl, hb3⟩
  have k3 : Hid (Below w.heap.size w w3) := k2.out.trans (hb3.mono (by omega))
  have x3_5 : w3.cell? ⟨w.heap.size, 5, none⟩ = some (vp5) := (hb3.cell (p := ⟨w.heap.size, 5, none⟩) (by show w.heap.size < _; omega)).trans x2_5
  have y3_5 : w3.cell? ⟨w.heap.size + 1, 5, none⟩ = some (vq5) := (hb3.cell (p := ⟨w.heap.size + 1, 5, none⟩) (by show w.heap.size + 1 < _; omega)).trans y2_5
  have s3 : w.heap.size + 2 ≤ w3.heap.size := by have := hb3.size; omega
  go_wp2_with fail
  refine (eqStringS_any S S' _ vp5 vq5 _ (Hp5.same (Same.of_below k3.out hS)) (Hq5.same (Same.of_below k3.out hS')) (fun b hb => by have := hS b hb; omega) (fun b hb => by have := hS' b hb; omega)).mono ?_
  rintro e w4 ⟨rfl, hb4⟩
  have k4 : Hid (Below w.heap.size w w4) := k3.out.trans (hb4.mono (by omega))
  have s4 : w.heap.size + 2 ≤ w4.heap.size := by have := hb4.size; omega
  go_wp2_with fail
  go_ret
  exact ⟨rfl, k4.out⟩
open Go.Sort in
theorem eqClaimWantq (S S' : Nat → Prop) (a : DClaimWant) (c c' : Nat → Value) (wr : World) (h : Lay.At S wr a c) (h' : Lay.At S' wr a c') (hS : ∀ b, S b → b < wr.heap.size) (hS' : ∀ b, S' b → b < wr.heap.size) (d : Nat) (os : Array Obj) : Calls Tryz.prog 35 #[.agg #[c 0, c 1, c 2, c 3, c 4, c 5], .agg #[c' 0, c' 1, c' 2, c' 3, c' 4, c' 5]] (grow (redrawn wr d) os) fun e w'' => e = .returned (.bool true) ∧ ∃ p : Regrown, w'' = grow (redrawn wr p.d) p.os :=
  Calls.regrown_of (eqClaimWant_any S S' a c c' _ (Lay.same h (Same.of_below (below_regrown wr d os) hS)) (Lay.same h' (Same.of_below (below_regrown wr d os) hS')) (fun b hb => Nat.lt_of_lt_of_le (hS b hb) (below_regrown wr d os).size) (fun b hb => Nat.lt_of_lt_of_le (hS' b hb) (below_regrown wr d os).size))

end Go.Proofs.YtciembgenlcogaeGreat.C

/-
  From a value of the law's type that can be read to its data in memory.
-/
namespace Go.Proofs.YtciembgenlcogaeGreat.C
open Go.ChangeShapes Go.WideShapes Go.ChangeAt Go.RowKit

theorem cStr : Tryz.prog.cellsOf 9 = 1 := by kernel_rfl
theorem cInt : Tryz.prog.cellsOf 3 = 1 := by kernel_rfl
theorem cLStr : Tryz.prog.cellsOf 22 = 1 := by kernel_rfl
theorem cLClaimUse : Tryz.prog.cellsOf 28 = 1 := by kernel_rfl
theorem cDClaimUse : Tryz.prog.cellsOf 105 = 3 := by kernel_rfl
theorem cDClaimWant : Tryz.prog.cellsOf 30 = 6 := by kernel_rfl

section
variable {H : Type} {enc : TypeId × Value → H} {w : World} {base : Nat} {spare : Nat → Bool} {held : Bool}

/-- A list that can be read, if each element can. -/
theorem of_list {t e : TypeId} {fuel : Nat} {v : Value} {x : DataW H × List MemPlace} {α : Type} [Lay α] [Inhabited α] (ht : Tryz.prog.underlying t = some (.slice e)) (hk : Tryz.prog.cellsOf e = Lay.width α) (hk1 : 1 ≤ Lay.width α)
    (hel : ∀ n cs y, cs.length = Lay.width α → DataW.trod enc Tryz.prog w base spare held n e cs = some y → ∃ (a : α) (c : Nat → Value), Lay.At (fun b => b < w.heap.size) w a c ∧ ∀ j, j < Lay.width α → cs[j]? = some (c j))
    (h : DataW.trod enc Tryz.prog w base spare held fuel t [v] = some x) : ∃ l : List α, AtL (fun b => b < w.heap.size) w l v := by
  rcases Deep.open_slice ht h with ⟨h1, _⟩ | ⟨a, len, cap, m, n, D, Pl, h1, hb, hl, hm, hmm, _, hx⟩
  · simp at h1; subst h1
    exact ⟨[], none, 0, rfl, ⟨Nat.zero_le _, Nat.le_refl _, fun _ => rfl⟩, fun i hi => by simp at hi⟩
  · simp at h1; subst h1
    have hle : len ≤ m := by rw [hmm]; split <;> omega
    obtain ⟨f, hf⟩ := Deep.choose_lt (α := α × (Nat → Value)) (n := len) (p := fun i z => Lay.At (fun b => b < w.heap.size) w z.1 z.2 ∧ ∀ j, j < Lay.width α → w.cell? ((a.add (i * Lay.width α)).add j) = some (z.2 j)) (fun i hi => by
      obtain ⟨cs', h2, h3⟩ := hx i (by omega)
      rw [hk] at h2
      obtain ⟨_, h4, h5⟩ := World.cells?_some h2
      obtain ⟨a', c', hq, h6⟩ := hel n cs' _ h4 h3
      exact ⟨(a', c'), hq, fun j hj => (h5 j hj).trans (h6 j hj)⟩)
    refine ⟨List.ofFn (fun i : Fin len => (f i).1), some a, cap, by simp, ⟨by simp; omega, by rw [List.length_ofFn]; omega, fun h => nomatch h⟩, fun i hi => ?_⟩
    have hil : i < len := by simpa using hi
    have h0 := (hf 0 (by omega)).2 0 hk1
    have hsp : a.spot = none := by
      have h7 := World.cell?_spot h0
      simpa [Addr.add] using h7
    obtain ⟨b, off, sp⟩ := a
    simp only at hsp
    subst hsp
    refine ⟨b, off, rfl, ?_, (f i).2, fun j hj => ?_, ?_⟩
    · exact World.block_lt_of_cell? w _ (by simpa [add_plain] using h0)
    · have h8 := (hf i hil).2 j hj
      rw [add_plain, add_plain] at h8
      exact h8
    · rw [List.getElem_ofFn]
      exact (hf i hil).1

theorem ofStr {n : Nat} {cs : List Value} {y : DataW H × List MemPlace} (h : DataW.trod enc Tryz.prog w base spare held n 9 cs = some y) : ∃ a : ByteArray, cs = [.string a] ∧ a.size ≤ maxLen := by
  obtain ⟨s, h1, _, h2⟩ := DataW.trod_string Tryz.underlying9 h
  exact ⟨s, h1, h2⟩
theorem ofInt {n : Nat} {cs : List Value} {y : DataW H × List MemPlace} (h : DataW.trod enc Tryz.prog w base spare held n 3 cs = some y) : ∃ a : Int, cs = [.int .i64 a] ∧ -9223372036854775808 ≤ a ∧ a ≤ 9223372036854775807 := by
  obtain ⟨s, h1, _, h2⟩ := DataW.trod_int Tryz.underlying3 h
  refine ⟨s, h1, ?_⟩
  have e1 : IntKind.i64.min = -9223372036854775808 := by decide
  have e2 : IntKind.i64.max = 9223372036854775807 := by decide
  simp [Lit.wf] at h2
  omega
theorem ofDClaimUse {n : Nat} {cs : List Value} {y : DataW H × List MemPlace} (hl : cs.length = 3) (hy : DataW.trod enc Tryz.prog w base spare held n 105 cs = some y) : ∃ (a : DClaimUse) (c : Nat → Value), Lay.At (fun b => b < w.heap.size) w a c ∧ ∀ j, j < Lay.width DClaimUse → cs[j]? = some (c j) := by
  match cs, hl with
  | [x0, x1, x2], _ =>
    obtain ⟨xs, m, _, _, _, hlen, hf⟩ := DataW.trod_struct Tryz.underlying105 hy
    have g0 : DataW.trod enc Tryz.prog w base spare held m 9 [x0] = xs[0]? := by simpa [cStr, cInt] using hf 0 _ rfl
    have g1 : DataW.trod enc Tryz.prog w base spare held m 3 [x1] = xs[1]? := by simpa [cStr, cInt] using hf 1 _ rfl
    have g2 : DataW.trod enc Tryz.prog w base spare held m 3 [x2] = xs[2]? := by simpa [cStr, cInt] using hf 2 _ rfl
    rw [List.getElem?_eq_getElem (by rw [hlen]; decide)] at g0 g1 g2
    obtain ⟨a0, e0, k0⟩ := ofStr g0
    obtain ⟨a1, e1, k1, m1⟩ := ofInt g1
    obtain ⟨a2, e2, k2, m2⟩ := ofInt g2
    simp at e0 e1 e2
    subst e0 e1 e2
    exact ⟨(a0, a1, a2), Go.Proofs.YtciembgenlcogaeGreat.C.cs [.string a0, .int .i64 a1, .int .i64 a2], at_DClaimUse.2 ⟨⟨rfl, k0⟩, ⟨rfl, k1, m1⟩, ⟨rfl, k2, m2⟩⟩, fun j hj => by
      rw [width_DClaimUse] at hj
      rcases (show j = 0 ∨ j = 1 ∨ j = 2 by omega) with rfl | rfl | rfl <;> rfl⟩
theorem ofLStr {fuel : Nat} {v : Value} {x : DataW H × List MemPlace} (h : DataW.trod enc Tryz.prog w base spare held fuel 22 [v] = some x) : ∃ l : List ByteArray, AtL (fun b => b < w.heap.size) w l v :=
  of_list (α := ByteArray) Tryz.underlying22 cStr (Nat.le_refl _) (fun n cs y hl hy => by
    obtain ⟨a, rfl, ha⟩ := ofStr hy
    exact ⟨a, Go.Proofs.YtciembgenlcogaeGreat.C.cs [.string a], ⟨rfl, ha⟩, fun j hj => by
      have e : j = 0 := by simpa [width_str] using hj
      subst e; rfl⟩) h
theorem ofLClaimUse {fuel : Nat} {v : Value} {x : DataW H × List MemPlace} (h : DataW.trod enc Tryz.prog w base spare held fuel 28 [v] = some x) : ∃ l : List DClaimUse, AtL (fun b => b < w.heap.size) w l v :=
  of_list (α := DClaimUse) Tryz.underlying28 cDClaimUse (by rw [width_DClaimUse]; omega) (fun n cs y hl hy => ofDClaimUse (by simpa [width_DClaimUse] using hl) hy) h
theorem ofDClaimWant {n : Nat} {cs : List Value} {y : DataW H × List MemPlace} (hl : cs.length = 6) (hy : DataW.trod enc Tryz.prog w base spare held n 30 cs = some y) : ∃ (a : DClaimWant) (c : Nat → Value), Lay.At (fun b => b < w.heap.size) w a c ∧ ∀ j, j < Lay.width DClaimWant → cs[j]? = some (c j) := by
  match cs, hl with
  | [x0, x1, x2, x3, x4, x5], _ =>
    obtain ⟨xs, m, _, _, _, hlen, hf⟩ := DataW.trod_struct Tryz.underlying30 hy
    have g0 : DataW.trod enc Tryz.prog w base spare held m 3 [x0] = xs[0]? := by simpa [cStr, cInt, cLStr, cLClaimUse] using hf 0 _ rfl
    have g1 : DataW.trod enc Tryz.prog w base spare held m 3 [x1] = xs[1]? := by simpa [cStr, cInt, cLStr, cLClaimUse] using hf 1 _ rfl
    have g2 : DataW.trod enc Tryz.prog w base spare held m 22 [x2] = xs[2]? := by simpa [cStr, cInt, cLStr, cLClaimUse] using hf 2 _ rfl
    have g3 : DataW.trod enc Tryz.prog w base spare held m 28 [x3] = xs[3]? := by simpa [cStr, cInt, cLStr, cLClaimUse] using hf 3 _ rfl
    have g4 : DataW.trod enc Tryz.prog w base spare held m 22 [x4] = xs[4]? := by simpa [cStr, cInt, cLStr, cLClaimUse] using hf 4 _ rfl
    have g5 : DataW.trod enc Tryz.prog w base spare held m 22 [x5] = xs[5]? := by simpa [cStr, cInt, cLStr, cLClaimUse] using hf 5 _ rfl
    rw [List.getElem?_eq_getElem (by rw [hlen]; decide)] at g0 g1 g2 g3 g4 g5
    obtain ⟨a0, e0, k0, m0⟩ := ofInt g0
    obtain ⟨a1, e1, k1, m1⟩ := ofInt g1
    obtain ⟨a2, k2⟩ := ofLStr g2
    obtain ⟨a3, k3⟩ := ofLClaimUse g3
    obtain ⟨a4, k4⟩ := ofLStr g4
    obtain ⟨a5, k5⟩ := ofLStr g5
    simp at e0 e1
    subst e0 e1
    exact ⟨(a0, a1, a2, a3, a4, a5), Go.Proofs.YtciembgenlcogaeGreat.C.cs [.int .i64 a0, .int .i64 a1, x2, x3, x4, x5], at_DClaimWant.2 ⟨⟨rfl, k0, m0⟩, ⟨rfl, k1, m1⟩, k2, k3, k4, k5⟩, fun j hj => by
      rw [width_DClaimWant] at hj
      rcases (show j = 0 ∨ j = 1 ∨ j = 2 ∨ j = 3 ∨ j = 4 ∨ j = 5 by omega) with rfl | rfl | rfl | rfl | rfl | rfl <;> rfl⟩
set_option maxRecDepth 100000 in
theorem ofClaimWant {r : Reach} {b0 : Nat} {v : Value} {d : DataW H} {p : List MemPlace} (hv : Value.okWide Tryz.prog w r b0 30 v) (h : DataW.Trod enc Tryz.prog w base spare held 30 v d p) :
    ∃ (a : DClaimWant) (c : Nat → Value), v = .agg #[c 0, c 1, c 2, c 3, c 4, c 5] ∧ Lay.At (fun b => b < w.heap.size) w a c := by
  obtain ⟨cs, rfl, hsz⟩ := okWide_struct Tryz.underlying30 hv
  obtain ⟨m, hm⟩ := h
  have hl : cs.toList.length = 6 := by rw [Array.length_toList]; exact hsz.trans cDClaimWant
  obtain ⟨a, c, hat, hc⟩ := ofDClaimWant hl hm
  refine ⟨a, c, ?_, hat⟩
  congr 1
  apply Array.ext
  · rw [hsz]; exact cDClaimWant
  · intro j h1 h2
    have h3 : j < 6 := by have := hsz.trans cDClaimWant; omega
    have := hc j (by rw [width_DClaimWant]; exact h3)
    rw [Array.getElem?_toList, Array.getElem?_eq_getElem h1] at this
    rw [Option.some.inj this]
    rcases (show j = 0 ∨ j = 1 ∨ j = 2 ∨ j = 3 ∨ j = 4 ∨ j = 5 by omega) with rfl | rfl | rfl | rfl | rfl | rfl <;> rfl
end

end Go.Proofs.YtciembgenlcogaeGreat.C
