/-
  Several texts in one.
-/
import Derived.Test.YtobchllaopdchacGreatM0
import Derived.Test.YtobchllaopdchacGreatM33
import Derived.Deep.Cut
namespace Go.Proofs.YtobchllaopdchacGreat
open Go.RowKit
set_option maxRecDepth 100000 in
set_option maxHeartbeats 4000000 in
theorem szRunDone_any (S : Nat → Prop) (a : DRunDone) (c : Nat → Value) (x : Int) (w : World) (h : Lay.At S w a c) (_hS : ∀ b, S b → b < w.heap.size) (h0 : 0 ≤ x) (h1 : x ≤ 1048576) :
    Calls Tryz.prog 27 #[.agg #[c 0, c 1, c 2], .int .i64 x] w fun e w' => ∃ y : Int, e = .returned (.int .i64 y) ∧ (y < 0 ∨ y + (Lay.tot a : Int) = x) ∧ Below w.heap.size w w' := by
  rw [tot_DRunDone]
  rw [at_DRunDone] at h
  obtain ⟨⟨e0, z0⟩, ⟨e1, z1, y1⟩, ⟨e2, z2, y2⟩⟩ := h
  rw [e0, e1, e2]
  clear e0 e1 e2
  unfold maxLen at z0
  have b0 : Hid (Below w.heap.size w (w.alloc (.cells #[.string a.1, .int .i64 a.2.1, .int .i64 a.2.2] 69))) := (Below.refl _ _).alloc (Nat.le_refl _) _
  go_enter Tryz.func27, Tryz.ntmps27
  by_cases n0 : x < (a.1.size : Int)
  · go_wp2_with fail
    go_ret
    exact ⟨_, rfl, Or.inl (by omega), b0.out⟩
  · have _u := trivial
    go_wp2_with fail
    go_ret
    exact ⟨_, rfl, Or.inr (by omega), b0.out⟩
set_option maxRecDepth 100000 in
set_option maxHeartbeats 4000000 in
theorem szRunBatchS_any (S : Nat → Prop) (l : List DRunBatch) (v : Value) (x : Int) (w : World) (h : AtL S w l v) (hS : ∀ b, S b → b < w.heap.size) (h0 : 0 ≤ x) (h1 : x ≤ 1048576) :
    Calls Tryz.prog 10 #[v, .int .i64 x] w fun e w' => ∃ y : Int, e = .returned (.int .i64 y) ∧ (y < 0 ∨ y + (totL l : Int) = x) ∧ Below w.heap.size w w' := by
  obtain ⟨oa, cap, rfl, hn, hc⟩ := h
  have ht : totL l = l.length + sumTo l l.length := rfl
  obtain ⟨n, en⟩ : ∃ n, l.length = n := ⟨_, rfl⟩
  rw [en] at ht hn
  rw [en]
  unfold maxLen at hn
  have HC : Hid _ := hc
  clear hc
  have HT : Hid _ := ht
  clear ht
  by_cases hx : (n : Int) ≤ x
  · go_enter Tryz.func10, Tryz.ntmps10
    go_wp2
    go_loopw [1, 5] (fun q i wr => ∃ (k : Nat) (y : Int), k ≤ n ∧ i = .int .i64 k ∧ q = .int .i64 y ∧ 0 ≤ y ∧ y ≤ x ∧ Hid (y + ((n + sumTo l k : Nat) : Int) = x) ∧ Hid (Below w.heap.size w wr)) (fun _ i _ => n - (intOf i).toNat)
    case atStart => exact ⟨0, _, Nat.zero_le _, rfl, rfl, by omega, by omega, by rw [sumTo_zero]; show _ = _; omega, Below.refl _ _⟩
    case round =>
      obtain ⟨k, y, hk, rfl, rfl, hy0, hy1, hsum, hbel⟩ := hrel
      have hs := hbel.out.size
      by_cases hlt : k < n
      · obtain ⟨b, off, rfl, hbS, cc, hcell, hat⟩ := HC.out k (by omega)
        have hb := hS b hbS
        have hsu := sumTo_succ l k (by omega)
        rw [width_DRunBatch] at hcell
        have e0 : wr.cell? ⟨b, off + k * 6, none⟩ = some (cc 0) := (hbel.out.cell (p := ⟨b, off + k * 6, none⟩) (by show b < _; omega)).trans (by have hq := hcell 0 (by omega); first | exact hq | simpa using hq)
        have e1 : wr.cell? ⟨b, off + k * 6 + 1, none⟩ = some (cc 1) := (hbel.out.cell (p := ⟨b, off + k * 6 + 1, none⟩) (by show b < _; omega)).trans (by have hq := hcell 1 (by omega); first | exact hq | simpa using hq)
        have e2 : wr.cell? ⟨b, off + k * 6 + 2, none⟩ = some (cc 2) := (hbel.out.cell (p := ⟨b, off + k * 6 + 2, none⟩) (by show b < _; omega)).trans (by have hq := hcell 2 (by omega); first | exact hq | simpa using hq)
        have e3 : wr.cell? ⟨b, off + k * 6 + 3, none⟩ = some (cc 3) := (hbel.out.cell (p := ⟨b, off + k * 6 + 3, none⟩) (by show b < _; omega)).trans (by have hq := hcell 3 (by omega); first | exact hq | simpa using hq)
        have e4 : wr.cell? ⟨b, off + k * 6 + 4, none⟩ = some (cc 4) := (hbel.out.cell (p := ⟨b, off + k * 6 + 4, none⟩) (by show b < _; omega)).trans (by have hq := hcell 4 (by omega); first | exact hq | simpa using hq)
        have e5 : wr.cell? ⟨b, off + k * 6 + 5, none⟩ = some (cc 5) := (hbel.out.cell (p := ⟨b, off + k * 6 + 5, none⟩) (by show b < _; omega)).trans (by have hq := hcell 5 (by omega); first | exact hq | simpa using hq)
        clear hcell
        have HSU : Hid _ := hsu
        clear hsu
        have HAT : Hid _ := hat
        clear hat
        go_wp2_with fail
        refine (szRunBatch_any S _ cc _ _ (Lay.same HAT.out (Same.of_below hbel.out hS)) (fun b hb => by have := hS b hb; omega) hy0 (by omega)).mono ?_
        rintro e u ⟨z, rfl, hz1, hbu⟩
        by_cases hneg : z < 0
        · go_wp2_with fail
          go_ret
          exact ⟨_, rfl, Or.inl (by omega), hbel.out.trans (hbu.mono hs)⟩
        · go_wp2_with fail
          go_roundw
          case rel => exact ⟨k + 1, z, by omega, by go_num, rfl, by omega, by omega, by rw [HSU.out]; have := hsum.out; show _ = _; omega, hbel.out.trans (hbu.mono hs)⟩
          case measure => simp [intOf]; omega
      · have hkn : k = n := by omega
        subst hkn
        go_wp2
        go_ret
        exact ⟨y, rfl, Or.inr (by have := hsum.out; rw [HT.out]; omega), hbel.out⟩
  · go_enter Tryz.func10, Tryz.ntmps10
    go_wp2
    go_ret
    exact ⟨-1, rfl, Or.inl (by omega), Below.refl _ _⟩
set_option maxRecDepth 100000 in
set_option maxHeartbeats 4000000 in
theorem szRunDoneS_any (S : Nat → Prop) (l : List DRunDone) (v : Value) (x : Int) (w : World) (h : AtL S w l v) (hS : ∀ b, S b → b < w.heap.size) (h0 : 0 ≤ x) (h1 : x ≤ 1048576) :
    Calls Tryz.prog 11 #[v, .int .i64 x] w fun e w' => ∃ y : Int, e = .returned (.int .i64 y) ∧ (y < 0 ∨ y + (totL l : Int) = x) ∧ Below w.heap.size w w' := by
  obtain ⟨oa, cap, rfl, hn, hc⟩ := h
  have ht : totL l = l.length + sumTo l l.length := rfl
  obtain ⟨n, en⟩ : ∃ n, l.length = n := ⟨_, rfl⟩
  rw [en] at ht hn
  rw [en]
  unfold maxLen at hn
  have HC : Hid _ := hc
  clear hc
  have HT : Hid _ := ht
  clear ht
  by_cases hx : (n : Int) ≤ x
  · go_enter Tryz.func11, Tryz.ntmps11
    go_wp2
    go_loopw [1, 5] (fun q i wr => ∃ (k : Nat) (y : Int), k ≤ n ∧ i = .int .i64 k ∧ q = .int .i64 y ∧ 0 ≤ y ∧ y ≤ x ∧ Hid (y + ((n + sumTo l k : Nat) : Int) = x) ∧ Hid (Below w.heap.size w wr)) (fun _ i _ => n - (intOf i).toNat)
    case atStart => exact ⟨0, _, Nat.zero_le _, rfl, rfl, by omega, by omega, by rw [sumTo_zero]; show _ = _; omega, Below.refl _ _⟩
    case round =>
      obtain ⟨k, y, hk, rfl, rfl, hy0, hy1, hsum, hbel⟩ := hrel
      have hs := hbel.out.size
      by_cases hlt : k < n
      · obtain ⟨b, off, rfl, hbS, cc, hcell, hat⟩ := HC.out k (by omega)
        have hb := hS b hbS
        have hsu := sumTo_succ l k (by omega)
        rw [width_DRunDone] at hcell
        have e0 : wr.cell? ⟨b, off + k * 3, none⟩ = some (cc 0) := (hbel.out.cell (p := ⟨b, off + k * 3, none⟩) (by show b < _; omega)).trans (by have hq := hcell 0 (by omega); first | exact hq | simpa using hq)
        have e1 : wr.cell? ⟨b, off + k * 3 + 1, none⟩ = some (cc 1) := (hbel.out.cell (p := ⟨b, off + k * 3 + 1, none⟩) (by show b < _; omega)).trans (by have hq := hcell 1 (by omega); first | exact hq | simpa using hq)
        have e2 : wr.cell? ⟨b, off + k * 3 + 2, none⟩ = some (cc 2) := (hbel.out.cell (p := ⟨b, off + k * 3 + 2, none⟩) (by show b < _; omega)).trans (by have hq := hcell 2 (by omega); first | exact hq | simpa using hq)
        clear hcell
        have HSU : Hid _ := hsu
        clear hsu
        have HAT : Hid _ := hat
        clear hat
        go_wp2_with fail
        refine (szRunDone_any S _ cc _ _ (Lay.same HAT.out (Same.of_below hbel.out hS)) (fun b hb => by have := hS b hb; omega) hy0 (by omega)).mono ?_
        rintro e u ⟨z, rfl, hz1, hbu⟩
        by_cases hneg : z < 0
        · go_wp2_with fail
          go_ret
          exact ⟨_, rfl, Or.inl (by omega), hbel.out.trans (hbu.mono hs)⟩
        · go_wp2_with fail
          go_roundw
          case rel => exact ⟨k + 1, z, by omega, by go_num, rfl, by omega, by omega, by rw [HSU.out]; have := hsum.out; show _ = _; omega, hbel.out.trans (hbu.mono hs)⟩
          case measure => simp [intOf]; omega
      · have hkn : k = n := by omega
        subst hkn
        go_wp2
        go_ret
        exact ⟨y, rfl, Or.inr (by have := hsum.out; rw [HT.out]; omega), hbel.out⟩
  · go_enter Tryz.func11, Tryz.ntmps11
    go_wp2
    go_ret
    exact ⟨-1, rfl, Or.inl (by omega), Below.refl _ _⟩
set_option maxRecDepth 100000 in
set_option maxHeartbeats 8000000 in
theorem szRunHouse_any (S : Nat → Prop) (a : DRunHouse) (c : Nat → Value) (x : Int) (w : World) (h : Lay.At S w a c) (hS : ∀ b, S b → b < w.heap.size) (h0 : 0 ≤ x) (h1 : x ≤ 1048576) :
    Calls Tryz.prog 4 #[.agg #[c 0, c 1, c 2, c 3, c 4, c 5], .int .i64 x] w fun e w' => ∃ y : Int, e = .returned (.int .i64 y) ∧ (y < 0 ∨ y + (Lay.tot a : Int) = x) ∧ Below w.heap.size w w' := by
  rw [tot_DRunHouse]
  rw [at_DRunHouse] at h
  obtain ⟨⟨e0, z0, y0⟩, ⟨e1, z1, y1⟩, H2, H3, H4, H5⟩ := h
  obtain ⟨v2, e2⟩ : ∃ v, c 2 = v := ⟨_, rfl⟩
  rw [e2] at H2
  obtain ⟨v3, e3⟩ : ∃ v, c 3 = v := ⟨_, rfl⟩
  rw [e3] at H3
  obtain ⟨v4, e4⟩ : ∃ v, c 4 = v := ⟨_, rfl⟩
  rw [e4] at H4
  obtain ⟨v5, e5⟩ : ∃ v, c 5 = v := ⟨_, rfl⟩
  rw [e5] at H5
  rw [e0, e1, e2, e3, e4, e5]
  clear e0 e1 e2 e3 e4 e5
  obtain ⟨W, EW, BW, RW, sW⟩ := box_new w #[.int .i64 a.1, .int .i64 a.2.1, v2, v3, v4, v5] 29
  have BOX : Hid (∀ u, Below W.heap.size W u → u.heap[w.heap.size]? = some (.cells #[.int .i64 a.1, .int .i64 a.2.1, v2, v3, v4, v5] 29 (0, 0)) ∧ Below w.heap.size w u) := fun u hu => ⟨(hu.block _ (by omega)).trans RW.out, BW.out.trans (hu.mono (by omega))⟩
  have HS : Hid _ := lt_up hS
  have A2 : Hid (∀ u, Below w.heap.size w u → Lay.At S u ((a.2.2.1, a.2.2.2.1) : DShareBook) (cs [v2, v3])) := fun u hu => at_DShareBook.2 ⟨H2.same (Same.of_below hu hS), H3.same (Same.of_below hu hS)⟩
  have A4 : Hid _ := H4.ups hS
  have A5 : Hid _ := H5.ups hS
  clear H2 H3 H4 H5 hS
  have p2 := (cell_row RW.out 2 v2 rfl).1
  have p3 := (cell_row RW.out 3 v3 rfl).1
  go_enter Tryz.func4, Tryz.ntmps4
  go_upto_region 1 with fail
  rw [← EW.out]
  go_wp2_with fail
  refine (szShareBook_any S (a.2.2.1, a.2.2.2.1) (cs [v2, v3]) _ W (A2.out W BW.out) (HS.out W BW.out) h0 h1).mono ?_
  rintro e w1 ⟨y1, rfl, t1, u1⟩
  rw [tot_DShareBook] at t1
  have T1 : Hid _ := t1
  have C1 : Hid (Below W.heap.size W w1) := u1
  clear p2 p3 t1 u1
  have B1 := BOX.out w1 C1.out
  have p4 := (cell_row B1.1 4 v4 rfl).1
  by_cases n1 : y1 < 0
  · go_wp2_with fail
    go_ret
    exact ⟨_, rfl, Or.inl (by omega), B1.2⟩
  have l1 : y1 ≤ 1048576 := by have := T1.out; omega
  go_wp2_with fail
  refine (szRunBatchS_any S a.2.2.2.2.1 v4 y1 w1 (A4.out w1 B1.2) (HS.out w1 B1.2) (by omega) l1).mono ?_
  rintro e w2 ⟨y2, rfl, t2, u2⟩
  have T2 : Hid _ := t2
  have C2 : Hid (Below W.heap.size W w2) := C1.out.trans (u2.mono C1.out.size)
  clear p4 t2 u2
  have B2 := BOX.out w2 C2.out
  have p5 := (cell_row B2.1 5 v5 rfl).1
  by_cases n2 : y2 < 0
  · go_wp2_with fail
    go_ret
    exact ⟨_, rfl, Or.inl (by omega), B2.2⟩
  have l2 : y2 ≤ 1048576 := by have := T2.out; omega
  go_wp2_with fail
  refine (szRunDoneS_any S a.2.2.2.2.2 v5 y2 w2 (A5.out w2 B2.2) (HS.out w2 B2.2) (by omega) l2).mono ?_
  rintro e w3 ⟨y3, rfl, t3, u3⟩
  have T3 : Hid _ := t3
  have C3 : Hid (Below W.heap.size W w3) := C2.out.trans (u3.mono C2.out.size)
  clear p5 t3 u3
  have B3 := BOX.out w3 C3.out
  by_cases n3 : y3 < 0
  · go_wp2_with fail
    go_ret
    exact ⟨_, rfl, Or.inl (by omega), B3.2⟩
  · go_wp2_with fail
    go_ret
    refine ⟨_, rfl, Or.inr ?_, B3.2⟩
    have h1 := T1.out
    have h2 := T2.out
    have h3 := T3.out
    omega
end Go.Proofs.YtobchllaopdchacGreat

namespace Go.Proofs.YtobchllaopdchacGreat
open Go.RowKit
set_option maxRecDepth 100000 in
set_option maxHeartbeats 4000000 in
theorem toRecPhase_any (S : Nat → Prop) (a : DRecPhase) (c : Nat → Value) (w : World) (h : Lay.At S w a c) (_hS : ∀ b, S b → b < w.heap.size) (_hm : Lay.tot a ≤ 1048576) :
    Calls Tryz.prog 103 #[.agg #[c 0, c 1, c 2, c 3, c 4, c 5, c 6, c 7]] w fun e w' => ∃ g : Nat → Value, e = .returned (.agg #[g 0, g 1, g 2, g 3, g 4, g 5, g 6, g 7]) ∧ Lay.At (fun b => w.heap.size ≤ b ∧ b < w'.heap.size) w' a g ∧ Below w.heap.size w w' := by
  rw [at_DRecPhase] at h
  obtain ⟨⟨e0, z0⟩, ⟨e1, z1, y1⟩, ⟨e2, z2⟩, ⟨e3, z3⟩, ⟨e4, z4, y4⟩, ⟨e5, z5, y5⟩, ⟨e6, z6⟩, ⟨e7, z7⟩⟩ := h
  rw [e0, e1, e2, e3, e4, e5, e6, e7]
  clear e0 e1 e2 e3 e4 e5 e6 e7
  go_enter Tryz.func103, Tryz.ntmps103
  go_wp2
  exact bodyPost_ret (v := .agg #[.string a.1, .int .i64 a.2.1, .string a.2.2.1, .string a.2.2.2.1, .int .i64 a.2.2.2.2.1, .int .i64 a.2.2.2.2.2.1, .string a.2.2.2.2.2.2.1, .string a.2.2.2.2.2.2.2]) (by simp [results, Tryz.results103, go_sem]) rfl ⟨cs [.string a.1, .int .i64 a.2.1, .string a.2.2.1, .string a.2.2.2.1, .int .i64 a.2.2.2.2.1, .int .i64 a.2.2.2.2.2.1, .string a.2.2.2.2.2.2.1, .string a.2.2.2.2.2.2.2], rfl, at_DRecPhase.2 ⟨⟨rfl, z0⟩, ⟨rfl, z1, y1⟩, ⟨rfl, z2⟩, ⟨rfl, z3⟩, ⟨rfl, z4, y4⟩, ⟨rfl, z5, y5⟩, ⟨rfl, z6⟩, ⟨rfl, z7⟩⟩, by repeat (first | exact Below.refl _ _ | refine Below.alloc ?_ (by simp; try omega) _)⟩
end Go.Proofs.YtobchllaopdchacGreat

namespace Go.Proofs.YtobchllaopdchacGreat
open Go.RowKit
theorem underRecPhaseS : Tryz.prog.underlying 46 = some (.slice 75) := by kernel_rfl
theorem infoRecPhaseS : (Tryz.prog.info? 75).map (fun i => (i.zero, i.size, i.bytes)) = some (some (.agg #[.string ByteArray.empty, .int .i64 0, .string ByteArray.empty, .string ByteArray.empty, .int .i64 0, .int .i64 0, .string ByteArray.empty, .string ByteArray.empty]), 8, 104) := by kernel_rfl
set_option maxRecDepth 100000 in
set_option maxHeartbeats 4000000 in
theorem toRecPhaseS_any (S : Nat → Prop) (l : List DRecPhase) (v : Value) (w : World) (h : AtL S w l v) (hS : ∀ b, S b → b < w.heap.size) (hm : totL l ≤ 1048576) :
    Calls Tryz.prog 64 #[v] w fun e w' => ∃ r, e = .returned r ∧ AtL (fun b => w.heap.size ≤ b ∧ b < w'.heap.size) w' l r ∧ Below w.heap.size w w' := by
  obtain ⟨oa, cap, rfl, hn, hc⟩ := h
  have hln := totL_len l
  have HTE : Hid (∀ i (h : i < l.length), Lay.tot l[i] ≤ 1048576) := fun i h => Nat.le_trans (totL_el l i h) hm
  obtain ⟨n, en⟩ : ∃ n, l.length = n := ⟨_, rfl⟩
  rw [en] at hn hln
  rw [en]
  have HC : Hid _ := hc
  clear hc hn
  obtain ⟨i0, hi, hz0, hz1, hz2⟩ := info_parts infoRecPhaseS
  obtain ⟨M, hM⟩ : ∃ M, M = madeCells (.agg #[.string ByteArray.empty, .int .i64 0, .string ByteArray.empty, .string ByteArray.empty, .int .i64 0, .int .i64 0, .string ByteArray.empty, .string ByteArray.empty] : Value).cells ((n : Int).toNat * i0.size) := ⟨_, rfl⟩
  have hMs : M.size = n * 8 := by rw [hM, size_madeCells, hz1]; simp
  have hmk : ∀ W : World, (Instr.makeSlice 46 (.int .i64 (n : Int)) (.int .i64 (n : Int))).run Tryz.prog W = .ok (.slice (some ⟨W.heap.size, 0, none⟩) n n) (W.alloc (.cells M 75)) := fun W => by
    have h := run_make (P := Tryz.prog) W 46 75 i0 (.agg #[.string ByteArray.empty, .int .i64 0, .string ByteArray.empty, .string ByteArray.empty, .int .i64 0, .int .i64 0, .string ByteArray.empty, .string ByteArray.empty]) underRecPhaseS hi hz0 .i64 .i64 (n : Int) (n : Int) (by omega) (by omega) (by rw [hz2]; omega) (by omega)
    rw [← hM] at h
    simpa using h
  clear hM
  go_enter Tryz.func64, Tryz.ntmps64
  go_wp2
  go_loopw [4] (fun i wr => ∃ (k : Nat) (c : Array Value), k ≤ n ∧ i = .int .i64 k ∧ Hid (wr.heap[w.heap.size]? = some (.cells c 75 (0, 0))) ∧ c.size = n * 8 ∧ Hid (∀ i (h : i < l.length), i < k → ∃ g : Nat → Value, (∀ j, j < 8 → c[i * 8 + j]? = some (g j)) ∧ Lay.At (fun b => w.heap.size < b ∧ b < wr.heap.size) wr l[i] g) ∧ Hid (Below w.heap.size w wr)) (fun i _ => n - (intOf i).toNat)
  case atStart => exact ⟨0, M, Nat.zero_le _, rfl, heap_alloc_new w _, hMs, fun _ _ h => by omega, (Below.refl _ _).alloc (Nat.le_refl _) _⟩
  case round =>
    obtain ⟨k, c, hk, rfl, hrow, hcs, hall, hbel⟩ := hrel
    have hRw : w.heap.size < wr.heap.size := (Array.getElem?_eq_some_iff.1 hrow.out).1
    by_cases hlt : k < n
    · obtain ⟨b, off, rfl, hbS, cc, hcell, hat⟩ := HC.out k (by omega)
      have hb := hS b hbS
      rw [width_DRecPhase] at hcell
      have e0 : wr.cell? ⟨b, off + k * 8, none⟩ = some (cc 0) := (hbel.out.cell (p := ⟨b, off + k * 8, none⟩) (by show b < _; omega)).trans (by have hq := hcell 0 (by omega); first | exact hq | simpa using hq)
      have e1 : wr.cell? ⟨b, off + k * 8 + 1, none⟩ = some (cc 1) := (hbel.out.cell (p := ⟨b, off + k * 8 + 1, none⟩) (by show b < _; omega)).trans (by have hq := hcell 1 (by omega); first | exact hq | simpa using hq)
      have e2 : wr.cell? ⟨b, off + k * 8 + 2, none⟩ = some (cc 2) := (hbel.out.cell (p := ⟨b, off + k * 8 + 2, none⟩) (by show b < _; omega)).trans (by have hq := hcell 2 (by omega); first | exact hq | simpa using hq)
      have e3 : wr.cell? ⟨b, off + k * 8 + 3, none⟩ = some (cc 3) := (hbel.out.cell (p := ⟨b, off + k * 8 + 3, none⟩) (by show b < _; omega)).trans (by have hq := hcell 3 (by omega); first | exact hq | simpa using hq)
      have e4 : wr.cell? ⟨b, off + k * 8 + 4, none⟩ = some (cc 4) := (hbel.out.cell (p := ⟨b, off + k * 8 + 4, none⟩) (by show b < _; omega)).trans (by have hq := hcell 4 (by omega); first | exact hq | simpa using hq)
      have e5 : wr.cell? ⟨b, off + k * 8 + 5, none⟩ = some (cc 5) := (hbel.out.cell (p := ⟨b, off + k * 8 + 5, none⟩) (by show b < _; omega)).trans (by have hq := hcell 5 (by omega); first | exact hq | simpa using hq)
      have e6 : wr.cell? ⟨b, off + k * 8 + 6, none⟩ = some (cc 6) := (hbel.out.cell (p := ⟨b, off + k * 8 + 6, none⟩) (by show b < _; omega)).trans (by have hq := hcell 6 (by omega); first | exact hq | simpa using hq)
      have e7 : wr.cell? ⟨b, off + k * 8 + 7, none⟩ = some (cc 7) := (hbel.out.cell (p := ⟨b, off + k * 8 + 7, none⟩) (by show b < _; omega)).trans (by have hq := hcell 7 (by omega); first | exact hq | simpa using hq)
      clear hcell
      have HAT : Hid _ := hat
      clear hat
      go_wp2_with fail
      refine (toRecPhase_any S _ cc _ (Lay.same HAT.out (Same.of_below hbel.out hS)) (fun b hb => by have := hS b hb; omega) (HTE.out k (by omega))).mono ?_
      rintro e u ⟨g, rfl, hg, hbu⟩
      have HG : Hid _ := hg
      clear hg
      have hus := hbu.size
      have hrow2 : Hid (u.heap[w.heap.size]? = some (.cells c 75 (0, 0))) := (hbu.block _ hRw).trans hrow.out
      have hbel2 : Hid (Below w.heap.size w u) := hbel.out.trans (hbu.mono (by omega))
      obtain ⟨⟨ge0, _⟩, ⟨ge1, _, _⟩, ⟨ge2, _⟩, ⟨ge3, _⟩, ⟨ge4, _, _⟩, ⟨ge5, _, _⟩, ⟨ge6, _⟩, ⟨ge7, _⟩⟩ := at_DRecPhase.1 HG.out
      rw [ge0, ge1, ge2, ge3, ge4, ge5, ge6, ge7]
      obtain ⟨v0, hv0⟩ : ∃ v, c[k * 8]? = some v := ⟨_, Array.getElem?_eq_getElem (by omega)⟩
      obtain ⟨hcl0, hfr0⟩ := cell_row hrow2.out (k * 8) v0 hv0
      clear hv0
      obtain ⟨v1, hv1⟩ : ∃ v, c[k * 8 + 1]? = some v := ⟨_, Array.getElem?_eq_getElem (by omega)⟩
      obtain ⟨hcl1, hfr1⟩ := cell_row hrow2.out (k * 8 + 1) v1 hv1
      clear hv1
      obtain ⟨v2, hv2⟩ : ∃ v, c[k * 8 + 2]? = some v := ⟨_, Array.getElem?_eq_getElem (by omega)⟩
      obtain ⟨hcl2, hfr2⟩ := cell_row hrow2.out (k * 8 + 2) v2 hv2
      clear hv2
      obtain ⟨v3, hv3⟩ : ∃ v, c[k * 8 + 3]? = some v := ⟨_, Array.getElem?_eq_getElem (by omega)⟩
      obtain ⟨hcl3, hfr3⟩ := cell_row hrow2.out (k * 8 + 3) v3 hv3
      clear hv3
      obtain ⟨v4, hv4⟩ : ∃ v, c[k * 8 + 4]? = some v := ⟨_, Array.getElem?_eq_getElem (by omega)⟩
      obtain ⟨hcl4, hfr4⟩ := cell_row hrow2.out (k * 8 + 4) v4 hv4
      clear hv4
      obtain ⟨v5, hv5⟩ : ∃ v, c[k * 8 + 5]? = some v := ⟨_, Array.getElem?_eq_getElem (by omega)⟩
      obtain ⟨hcl5, hfr5⟩ := cell_row hrow2.out (k * 8 + 5) v5 hv5
      clear hv5
      obtain ⟨v6, hv6⟩ : ∃ v, c[k * 8 + 6]? = some v := ⟨_, Array.getElem?_eq_getElem (by omega)⟩
      obtain ⟨hcl6, hfr6⟩ := cell_row hrow2.out (k * 8 + 6) v6 hv6
      clear hv6
      obtain ⟨v7, hv7⟩ : ∃ v, c[k * 8 + 7]? = some v := ⟨_, Array.getElem?_eq_getElem (by omega)⟩
      obtain ⟨hcl7, hfr7⟩ := cell_row hrow2.out (k * 8 + 7) v7 hv7
      clear hv7
      have HSM : Hid (Same (fun b => w.heap.size < b ∧ b < u.heap.size) u ((((((((u.setCell ⟨w.heap.size, k * 8, none⟩ (.string (l[k]'(by omega)).1)).setCell ⟨w.heap.size, k * 8 + 1, none⟩ (.int .i64 (l[k]'(by omega)).2.1)).setCell ⟨w.heap.size, k * 8 + 2, none⟩ (.string (l[k]'(by omega)).2.2.1)).setCell ⟨w.heap.size, k * 8 + 3, none⟩ (.string (l[k]'(by omega)).2.2.2.1)).setCell ⟨w.heap.size, k * 8 + 4, none⟩ (.int .i64 (l[k]'(by omega)).2.2.2.2.1)).setCell ⟨w.heap.size, k * 8 + 5, none⟩ (.int .i64 (l[k]'(by omega)).2.2.2.2.2.1)).setCell ⟨w.heap.size, k * 8 + 6, none⟩ (.string (l[k]'(by omega)).2.2.2.2.2.2.1)).setCell ⟨w.heap.size, k * 8 + 7, none⟩ (.string (l[k]'(by omega)).2.2.2.2.2.2.2))) := ((((((((Same.of_set _ ⟨w.heap.size, k * 8, none⟩ (.string (l[k]'(by omega)).1) (fun h => absurd h.1 (Nat.lt_irrefl _))).trans (Same.of_set _ ⟨w.heap.size, k * 8 + 1, none⟩ (.int .i64 (l[k]'(by omega)).2.1) (fun h => absurd h.1 (Nat.lt_irrefl _)))).trans (Same.of_set _ ⟨w.heap.size, k * 8 + 2, none⟩ (.string (l[k]'(by omega)).2.2.1) (fun h => absurd h.1 (Nat.lt_irrefl _)))).trans (Same.of_set _ ⟨w.heap.size, k * 8 + 3, none⟩ (.string (l[k]'(by omega)).2.2.2.1) (fun h => absurd h.1 (Nat.lt_irrefl _)))).trans (Same.of_set _ ⟨w.heap.size, k * 8 + 4, none⟩ (.int .i64 (l[k]'(by omega)).2.2.2.2.1) (fun h => absurd h.1 (Nat.lt_irrefl _)))).trans (Same.of_set _ ⟨w.heap.size, k * 8 + 5, none⟩ (.int .i64 (l[k]'(by omega)).2.2.2.2.2.1) (fun h => absurd h.1 (Nat.lt_irrefl _)))).trans (Same.of_set _ ⟨w.heap.size, k * 8 + 6, none⟩ (.string (l[k]'(by omega)).2.2.2.2.2.2.1) (fun h => absurd h.1 (Nat.lt_irrefl _)))).trans (Same.of_set _ ⟨w.heap.size, k * 8 + 7, none⟩ (.string (l[k]'(by omega)).2.2.2.2.2.2.2) (fun h => absurd h.1 (Nat.lt_irrefl _))))
      have HSZ : Hid (((((((((u.setCell ⟨w.heap.size, k * 8, none⟩ (.string (l[k]'(by omega)).1)).setCell ⟨w.heap.size, k * 8 + 1, none⟩ (.int .i64 (l[k]'(by omega)).2.1)).setCell ⟨w.heap.size, k * 8 + 2, none⟩ (.string (l[k]'(by omega)).2.2.1)).setCell ⟨w.heap.size, k * 8 + 3, none⟩ (.string (l[k]'(by omega)).2.2.2.1)).setCell ⟨w.heap.size, k * 8 + 4, none⟩ (.int .i64 (l[k]'(by omega)).2.2.2.2.1)).setCell ⟨w.heap.size, k * 8 + 5, none⟩ (.int .i64 (l[k]'(by omega)).2.2.2.2.2.1)).setCell ⟨w.heap.size, k * 8 + 6, none⟩ (.string (l[k]'(by omega)).2.2.2.2.2.2.1)).setCell ⟨w.heap.size, k * 8 + 7, none⟩ (.string (l[k]'(by omega)).2.2.2.2.2.2.2)).heap.size = u.heap.size) := by simp [Hid]
      go_wp2_with fail
      go_roundw
      case rel =>
        refine ⟨k + 1, ((((((((c.setIfInBounds (k * 8) (.string (l[k]'(by omega)).1)).setIfInBounds (k * 8 + 1) (.int .i64 (l[k]'(by omega)).2.1)).setIfInBounds (k * 8 + 2) (.string (l[k]'(by omega)).2.2.1)).setIfInBounds (k * 8 + 3) (.string (l[k]'(by omega)).2.2.2.1)).setIfInBounds (k * 8 + 4) (.int .i64 (l[k]'(by omega)).2.2.2.2.1)).setIfInBounds (k * 8 + 5) (.int .i64 (l[k]'(by omega)).2.2.2.2.2.1)).setIfInBounds (k * 8 + 6) (.string (l[k]'(by omega)).2.2.2.2.2.2.1)).setIfInBounds (k * 8 + 7) (.string (l[k]'(by omega)).2.2.2.2.2.2.2)), by omega, by go_num, (set_row (set_row (set_row (set_row (set_row (set_row (set_row (set_row hrow2.out (k * 8) _) (k * 8 + 1) _) (k * 8 + 2) _) (k * 8 + 3) _) (k * 8 + 4) _) (k * 8 + 5) _) (k * 8 + 6) _) (k * 8 + 7) _), by simpa using hcs, ?_, ((((((((hbel2.out.setCell (Nat.le_refl _) _).setCell (Nat.le_refl _) _).setCell (Nat.le_refl _) _).setCell (Nat.le_refl _) _).setCell (Nat.le_refl _) _).setCell (Nat.le_refl _) _).setCell (Nat.le_refl _) _).setCell (Nat.le_refl _) _)⟩
        intro i hi hik
        by_cases e : i = k
        · subst e
          refine ⟨g, ?_, ?_⟩
          · intro j hj
            rcases (show j = 0 ∨ j = 1 ∨ j = 2 ∨ j = 3 ∨ j = 4 ∨ j = 5 ∨ j = 6 ∨ j = 7 by omega) with rfl | rfl | rfl | rfl | rfl | rfl | rfl | rfl
            · rw [ge0]
              simp only [Array.getElem?_setIfInBounds, Array.size_setIfInBounds, hcs]
              repeat (first | rw [if_pos True.intro] | rw [if_pos (by omega)] | rw [if_neg (by omega)])
            · rw [ge1]
              simp only [Array.getElem?_setIfInBounds, Array.size_setIfInBounds, hcs]
              repeat (first | rw [if_pos True.intro] | rw [if_pos (by omega)] | rw [if_neg (by omega)])
            · rw [ge2]
              simp only [Array.getElem?_setIfInBounds, Array.size_setIfInBounds, hcs]
              repeat (first | rw [if_pos True.intro] | rw [if_pos (by omega)] | rw [if_neg (by omega)])
            · rw [ge3]
              simp only [Array.getElem?_setIfInBounds, Array.size_setIfInBounds, hcs]
              repeat (first | rw [if_pos True.intro] | rw [if_pos (by omega)] | rw [if_neg (by omega)])
            · rw [ge4]
              simp only [Array.getElem?_setIfInBounds, Array.size_setIfInBounds, hcs]
              repeat (first | rw [if_pos True.intro] | rw [if_pos (by omega)] | rw [if_neg (by omega)])
            · rw [ge5]
              simp only [Array.getElem?_setIfInBounds, Array.size_setIfInBounds, hcs]
              repeat (first | rw [if_pos True.intro] | rw [if_pos (by omega)] | rw [if_neg (by omega)])
            · rw [ge6]
              simp only [Array.getElem?_setIfInBounds, Array.size_setIfInBounds, hcs]
              repeat (first | rw [if_pos True.intro] | rw [if_pos (by omega)] | rw [if_neg (by omega)])
            · rw [ge7]
              simp only [Array.getElem?_setIfInBounds, Array.size_setIfInBounds, hcs]
              repeat (first | rw [if_pos True.intro] | rw [if_pos (by omega)] | rw [if_neg (by omega)])
          · refine Lay.up (S := fun b => w.heap.size < b ∧ b < u.heap.size) (Lay.same (Lay.up HG.out ?_) HSM.out) ?_
            · intro b hb; exact ⟨by omega, hb.2⟩
            · intro b hb; exact ⟨hb.1, by rw [HSZ.out]; exact hb.2⟩
        · obtain ⟨g', h1, h2⟩ := hall.out i hi (by omega)
          refine ⟨g', fun j hj => ?_, ?_⟩
          · simp only [Array.getElem?_setIfInBounds]
            repeat rw [if_neg (by omega)]
            exact h1 j hj
          · refine Lay.up (S := fun b => w.heap.size < b ∧ b < u.heap.size) (Lay.same (Lay.up (Lay.same h2 (Same.of_below hbu (fun b hb => hb.2))) ?_) HSM.out) ?_
            · intro b hb; exact ⟨hb.1, by have := hb.2; omega⟩
            · intro b hb; exact ⟨hb.1, by rw [HSZ.out]; exact hb.2⟩
      case measure => simp [intOf]; omega
    · have hkn : k = n := by omega
      subst hkn
      go_wp2_with fail
      go_ret
      refine ⟨.slice (some ⟨w.heap.size, 0, none⟩) k k, rfl, ⟨_, _, by rw [en], by rw [en]; exact ⟨by unfold maxLen; omega, Nat.le_refl _, fun h => nomatch h⟩, fun i hi => ⟨w.heap.size, 0, rfl, ⟨Nat.le_refl _, hRw⟩, ?_⟩⟩, hbel.out⟩
      obtain ⟨g', h1, h2⟩ := hall.out i hi (by omega)
      refine ⟨g', fun j hj => ?_, Lay.up h2 (fun b hb => ⟨by omega, hb.2⟩)⟩
      rw [width_DRecPhase] at hj ⊢
      have e : 0 + i * 8 + j = i * 8 + j := by omega
      rw [e]
      exact (cell_row hrow.out _ _ (h1 j hj)).1
end Go.Proofs.YtobchllaopdchacGreat
