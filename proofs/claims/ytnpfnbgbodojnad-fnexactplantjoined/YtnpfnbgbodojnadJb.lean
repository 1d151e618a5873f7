/-
  What the laws themselves do with an index: its measure, its copy in new memory, whether two are the same.
-/
import Derived.Test.YtnpfnbgbodojnadJz
import Derived.Deep.Cut
namespace Go.Proofs.Ytnpfnbgbodojnad
open Go.RowKit Go.Sort

set_option maxRecDepth 100000 in
set_option maxHeartbeats 1000000 in
theorem szMark_any (a b : ByteArray) (x : Int) (w : World) (ha : a.size ≤ maxLen) (hb : b.size ≤ maxLen) (h0 : 0 ≤ x) (h1 : x ≤ 1048576) :
    Calls Try.prog 17 #[.agg #[.string a, .string b], .int .i64 x] w fun e w' => ∃ y, e = .returned (.int .i64 y) ∧ y ≤ x ∧ Below w.heap.size w w' := by
  unfold maxLen at *
  go_enter Try.func17, Try.ntmps17
  go_wp2
  all_goals
    go_ret
    exact ⟨_, rfl, by omega, (Below.refl _ _).alloc (Nat.le_refl _) _⟩

set_option maxRecDepth 100000 in
set_option maxHeartbeats 2000000 in
theorem szM_any (B : Nat) (v : Value) (n : Nat) (f : Nat → ByteArray × ByteArray) (x : Int) (w : World) (h : Lst B w v n 2 (cF f)) (hB : B ≤ w.heap.size) (hz : ∀ i, i < n → (f i).1.size ≤ maxLen ∧ (f i).2.size ≤ maxLen) (h0 : 0 ≤ x) (h1 : x ≤ 1048576) :
    Calls Try.prog 10 #[v, .int .i64 x] w fun e w' => ∃ y, e = .returned (.int .i64 y) ∧ y ≤ x ∧ (0 ≤ y → n ≤ 1048576) ∧ Below w.heap.size w w' := by
  obtain ⟨oa, cap, rfl, hn, hc⟩ := h
  unfold maxLen at hn
  have HC : Hid _ := hc
  have HZ : Hid _ := hz
  clear hc hz
  by_cases hx : (n : Int) ≤ x
  · go_enter Try.func10, Try.ntmps10
    go_wp2
    go_loopw [1, 5] (fun l i wr => ∃ (k : Nat) (y : Int), k ≤ n ∧ i = .int .i64 k ∧ l = .int .i64 y ∧ 0 ≤ y ∧ y ≤ x ∧ Hid (Below w.heap.size w wr)) (fun _ i _ => n - (intOf i).toNat)
    case atStart => exact ⟨0, _, Nat.zero_le _, rfl, rfl, by omega, by omega, Below.refl _ _⟩
    case round =>
      obtain ⟨k, y, hk, rfl, rfl, hy0, hy1, hbel⟩ := hrel
      have hs := hbel.out.size
      by_cases hlt : k < n
      · obtain ⟨b, off, rfl, hbB, hcell⟩ := HC.out k hlt
        have HZK : Hid _ := HZ.out k hlt
        have e0 : wr.cell? ⟨b, off + k * 2, none⟩ = some (.string (f k).1) := (hbel.out.cell (p := ⟨b, off + k * 2, none⟩) (by show b < _; omega)).trans (by simpa [cF] using hcell 0 (by omega))
        have e1 : wr.cell? ⟨b, off + k * 2 + 1, none⟩ = some (.string (f k).2) := (hbel.out.cell (p := ⟨b, off + k * 2 + 1, none⟩) (by show b < _; omega)).trans (by simpa [cF] using hcell 1 (by omega))
        go_wp2_with fail
        refine (szMark_any _ _ _ _ HZK.out.1 HZK.out.2 hy0 (by omega)).mono ?_; rintro e u ⟨z, rfl, hz1, hbu⟩
        by_cases hneg : z < 0
        · go_wp2_with fail
          go_ret
          exact ⟨_, rfl, by omega, fun h => by omega, hbel.out.trans (hbu.mono hs)⟩
        · go_wp2_with fail
          go_roundw
          case rel => exact ⟨k + 1, z, by omega, by go_num, rfl, by omega, by omega, hbel.out.trans (hbu.mono hs)⟩
          case measure => simp [intOf]; omega
      · go_wp2
        go_ret
        exact ⟨y, rfl, hy1, fun _ => by omega, hbel.out⟩
  · go_enter Try.func10, Try.ntmps10
    go_wp2
    go_ret
    exact ⟨-1, rfl, by omega, fun h => by omega, Below.refl _ _⟩

set_option maxRecDepth 100000 in
set_option maxHeartbeats 1000000 in
theorem toMark_any (a b : ByteArray) (w : World) : Calls Try.prog 18 #[.agg #[.string a, .string b]] w fun e w' => e = .returned (.agg #[.string a, .string b]) ∧ Below w.heap.size w w' := by
  go_enter Try.func18, Try.ntmps18
  go_wp2
  exact bodyPost_ret (v := .agg #[.string a, .string b]) (by simp [results, Try.results18, go_sem]) rfl ⟨rfl, by repeat (first | exact Below.refl _ _ | refine Below.alloc ?_ (by simp; try omega) _)⟩

theorem underM : Try.prog.underlying 28 = some (.slice 46) := by kernel_rfl

theorem infoM : (Try.prog.info? 46).map (fun i => (i.zero, i.size, i.bytes)) = some (some (.agg #[.string ByteArray.empty, .string ByteArray.empty]), 2, 32) := by kernel_rfl

set_option maxRecDepth 100000 in
set_option maxHeartbeats 2000000 in
theorem toM_blk (B : Nat) (v : Value) (n : Nat) (f : Nat → ByteArray × ByteArray) (w : World) (h : Lst B w v n 2 (cF f)) (hB : B ≤ w.heap.size) (hm : n ≤ 1048576) :
    Calls Try.prog 13 #[v] w fun e w' => e = .returned (.slice (some ⟨w.heap.size, 0, none⟩) n n) ∧ Lst w'.heap.size w' (.slice (some ⟨w.heap.size, 0, none⟩) n n) n 2 (cF f) ∧ Blk w'.heap.size w' w.heap.size 46 (n * 2) ∧ Below w.heap.size w w' := by
  obtain ⟨oa, cap, rfl, hn, hc⟩ := h
  have HC : Hid _ := hc
  clear hc hn
  obtain ⟨i0, hi, hz0, hz1, hz2⟩ := info_parts infoM
  obtain ⟨M, hM⟩ : ∃ M, M = madeCells (.agg #[.string ByteArray.empty, .string ByteArray.empty] : Value).cells ((n : Int).toNat * i0.size) := ⟨_, rfl⟩
  have hMs : M.size = n * 2 := by rw [hM, size_madeCells, hz1]; simp
  have hmk : ∀ W : World, (Instr.makeSlice 28 (.int .i64 (n : Int)) (.int .i64 (n : Int))).run Try.prog W = .ok (.slice (some ⟨W.heap.size, 0, none⟩) n n) (W.alloc (.cells M 46)) := fun W => by
    have h := run_make (P := Try.prog) W 28 46 i0 (.agg #[.string ByteArray.empty, .string ByteArray.empty]) underM hi hz0 .i64 .i64 (n : Int) (n : Int) (by omega) (by omega) (by rw [hz2]; omega) (by omega)
    rw [← hM] at h
    simpa using h
  clear hM
  go_enter Try.func13, Try.ntmps13
  go_wp2
  go_loopw [4] (fun i wr => ∃ (k : Nat) (c : Array Value), k ≤ n ∧ i = .int .i64 k ∧ Hid (wr.heap[w.heap.size]? = some (.cells c 46 (0, 0))) ∧ c.size = n * 2 ∧ Hid (∀ i j, i < k → j < 2 → c[i * 2 + j]? = some (cF f i j)) ∧ Hid (Below w.heap.size w wr)) (fun i _ => n - (intOf i).toNat)
  case atStart => exact ⟨0, M, Nat.zero_le _, rfl, heap_alloc_new w _, hMs, fun _ _ h => by omega, (Below.refl _ _).alloc (Nat.le_refl _) _⟩
  case round =>
    obtain ⟨k, c, hk, rfl, hrow, hcs, hall, hbel⟩ := hrel
    by_cases hlt : k < n
    · obtain ⟨b, off, rfl, hbB, hcell⟩ := HC.out k hlt
      have e0 : wr.cell? ⟨b, off + k * 2, none⟩ = some (.string (f k).1) := (hbel.out.cell (p := ⟨b, off + k * 2, none⟩) (by show b < _; omega)).trans (by simpa [cF] using hcell 0 (by omega))
      have e1 : wr.cell? ⟨b, off + k * 2 + 1, none⟩ = some (.string (f k).2) := (hbel.out.cell (p := ⟨b, off + k * 2 + 1, none⟩) (by show b < _; omega)).trans (by simpa [cF] using hcell 1 (by omega))
      have hRw : w.heap.size < wr.heap.size := (Array.getElem?_eq_some_iff.1 hrow.out).1
      go_wp2_with fail
      refine (toMark_any _ _ _).mono ?_; rintro e u ⟨rfl, hbu⟩
      have hrow2 : Hid (u.heap[w.heap.size]? = some (.cells c 46 (0, 0))) := (hbu.block _ hRw).trans hrow.out
      have hbel2 : Hid (Below w.heap.size w u) := hbel.out.trans (hbu.mono (by omega))
      obtain ⟨v0, hv0⟩ : ∃ v, c[k * 2]? = some v := ⟨_, Array.getElem?_eq_getElem (by omega)⟩
      obtain ⟨hcl0, hfr0⟩ := cell_row hrow2.out (k * 2) v0 hv0
      clear hv0
      obtain ⟨v1, hv1⟩ : ∃ v, c[k * 2 + 1]? = some v := ⟨_, Array.getElem?_eq_getElem (by omega)⟩
      obtain ⟨hcl1, hfr1⟩ := cell_row hrow2.out (k * 2 + 1) v1 hv1
      clear hv1
      go_wp2_with fail
      go_roundw
      case rel =>
        refine ⟨k + 1, ((c.setIfInBounds (k * 2) (.string (f k).1)).setIfInBounds (k * 2 + 1) (.string (f k).2)), by omega, by go_num, (set_row (set_row hrow2.out (k * 2) _) (k * 2 + 1) _), by simpa using hcs, ?_, ((hbel2.out.setCell (Nat.le_refl _) _).setCell (Nat.le_refl _) _)⟩
        intro i j hi hj
        by_cases e : i = k
        · subst e
          rcases (show j = 0 ∨ j = 1 by omega) with rfl | rfl
          · simp only [Array.getElem?_setIfInBounds, Array.size_setIfInBounds, hcs]
            repeat (first | rw [if_pos (by omega)] | rw [if_neg (by omega)])
            simp [cF]
          · simp only [Array.getElem?_setIfInBounds, Array.size_setIfInBounds, hcs]
            repeat (first | rw [if_pos (by omega)] | rw [if_neg (by omega)])
            simp [cF]; omega
        · simp only [Array.getElem?_setIfInBounds]
          repeat rw [if_neg (by omega)]
          exact hall.out i j (by omega) hj
      case measure => simp [intOf]; omega
    · go_wp2_with fail
      go_ret
      refine ⟨rfl, ⟨_, _, rfl, by unfold maxLen; omega, fun i hi => ⟨w.heap.size, 0, rfl, (Array.getElem?_eq_some_iff.1 hrow.out).1, fun j hj => ?_⟩⟩, ⟨(Array.getElem?_eq_some_iff.1 hrow.out).1, c, hrow.out, hcs⟩, hbel.out⟩
      have e : 0 + i * 2 + j = i * 2 + j := by omega
      rw [e]
      exact (cell_row hrow.out _ _ (hall.out i j (by omega) hj)).1

theorem toM_any (B : Nat) (v : Value) (n : Nat) (f : Nat → ByteArray × ByteArray) (w : World) (h : Lst B w v n 2 (cF f)) (hB : B ≤ w.heap.size) (hm : n ≤ 1048576) :
    Calls Try.prog 13 #[v] w fun e w' => e = .returned (.slice (some ⟨w.heap.size, 0, none⟩) n n) ∧ Lst w'.heap.size w' (.slice (some ⟨w.heap.size, 0, none⟩) n n) n 2 (cF f) ∧ Below w.heap.size w w' :=
  (toM_blk B v n f w h hB hm).mono fun _ _ ⟨h1, h2, _, h3⟩ => ⟨h1, h2, h3⟩

set_option maxRecDepth 100000 in
set_option maxHeartbeats 1000000 in
theorem eqMark (a b : ByteArray) (w : World) : Calls Try.prog 21 #[.agg #[.string a, .string b], .agg #[.string a, .string b]] w fun e w' => e = .returned (.bool true) ∧ Below w.heap.size w w' := by
  go_enter Try.func21, Try.ntmps21
  go_wp2
  go_ret
  exact ⟨rfl, ((Below.refl _ _).alloc (Nat.le_refl _) _).alloc (by simp) _⟩

open Go.Sort in
theorem eqMarkq (a b : ByteArray) (wr : World) (dr : Nat) (os : Array Obj) : Calls Try.prog 21 #[.agg #[.string a, .string b], .agg #[.string a, .string b]] (grow (redrawn wr dr) os) fun e w'' => e = .returned (.bool true) ∧ ∃ p : Regrown, w'' = grow (redrawn wr p.d) p.os :=
  Calls.regrown_of (eqMark a b _)

set_option maxRecDepth 100000 in
set_option maxHeartbeats 2000000 in
theorem eqM_lst (B B' : Nat) (va vb : Value) (n : Nat) (f : Nat → ByteArray × ByteArray) (w : World) (ha : Lst B w va n 2 (cF f)) (hb : Lst B' w vb n 2 (cF f)) (hB : B ≤ w.heap.size) (hB' : B' ≤ w.heap.size) :
    Calls Try.prog 16 #[va, vb] w fun e w' => e = .returned (.bool true) ∧ Below w.heap.size w w' := by
  obtain ⟨oa, ca, rfl, hn, hca⟩ := ha
  obtain ⟨ob, cb, rfl, _, hcb⟩ := hb
  unfold maxLen at hn
  have HA : Hid _ := hca
  have HB : Hid _ := hcb
  clear hca hcb
  go_enter Try.func16, Try.ntmps16
  go_wp2
  go_loopw [5] (fun i wr => ∃ k : Nat, k ≤ n ∧ i = .int .i64 k ∧ Hid (Below w.heap.size w wr)) (fun i _ => n - (intOf i).toNat)
  case atStart => exact ⟨0, Nat.zero_le _, rfl, Below.refl _ _⟩
  case round =>
    obtain ⟨k, hk, rfl, hbel⟩ := hrel
    have hs := hbel.out.size
    by_cases hlt : k < n
    · obtain ⟨ba, fa, rfl, hba, hxa⟩ := HA.out k hlt
      obtain ⟨bb, fb, rfl, hbb, hxb⟩ := HB.out k hlt
      have a0 : wr.cell? ⟨ba, fa + k * 2, none⟩ = some (.string (f k).1) := (hbel.out.cell (p := ⟨ba, fa + k * 2, none⟩) (by show ba < _; omega)).trans (by simpa [cF] using hxa 0 (by omega))
      have qa0 := fun d os => cell_regrown a0 d os
      have a1 : wr.cell? ⟨ba, fa + k * 2 + 1, none⟩ = some (.string (f k).2) := (hbel.out.cell (p := ⟨ba, fa + k * 2 + 1, none⟩) (by show ba < _; omega)).trans (by simpa [cF] using hxa 1 (by omega))
      have qa1 := fun d os => cell_regrown a1 d os
      have c0 : wr.cell? ⟨bb, fb + k * 2, none⟩ = some (.string (f k).1) := (hbel.out.cell (p := ⟨bb, fb + k * 2, none⟩) (by show bb < _; omega)).trans (by simpa [cF] using hxb 0 (by omega))
      have qc0 := fun d os => cell_regrown c0 d os
      have c1 : wr.cell? ⟨bb, fb + k * 2 + 1, none⟩ = some (.string (f k).2) := (hbel.out.cell (p := ⟨bb, fb + k * 2 + 1, none⟩) (by show bb < _; omega)).trans (by simpa [cF] using hxb 1 (by omega))
      have qc1 := fun d os => cell_regrown c1 d os
      go_wp2
      refine wp_region_quiet_below (by kernel_rfl) (by kernel_rfl) ?_
      repeat (first | go_big_quiet_step (with_reducible exact eqMarkq _ _ _ _ _) | quiet_step (with_reducible exact eqMarkq _ _ _ _ _))
      refine wpQuiet_nil ?_
      intro _ hw'
      obtain ⟨⟨dq, osq⟩, hw''⟩ := hw'
      subst hw''
      go_wp2
      go_roundw
      case rel => exact ⟨k + 1, by omega, by go_num, hbel.out.trans ((below_regrown _ dq osq).mono hs)⟩
      case measure => simp [intOf]; omega
    · go_wp2
      go_ret
      exact ⟨rfl, hbel.out⟩

/-- An index in memory: m open names and k marks. -/
structure IAt (B : Nat) (w : World) (vp vv : Value) (m : Nat) (P : Nat → ByteArray) (k : Nat) (Q : Nat → ByteArray × ByteArray) : Prop where
  p : Lst B w vp m 1 (cS P)
  v : Lst B w vv k 2 (cF Q)

theorem IAt.kept {B B' : Nat} {w w' : World} {vp vv : Value} {m : Nat} {P : Nat → ByteArray} {k : Nat} {Q : Nat → ByteArray × ByteArray} (h : IAt B w vp vv m P k Q) (hb : Below B' w w') (hB : B ≤ B') : IAt B w' vp vv m P k Q := ⟨h.p.kept hb hB, h.v.kept hb hB⟩

set_option maxRecDepth 100000 in
set_option maxHeartbeats 2000000 in
theorem szIndex_any (B : Nat) (vp vv : Value) (m k : Nat) (P : Nat → ByteArray) (Q : Nat → ByteArray × ByteArray) (x : Int) (w : World) (h : IAt B w vp vv m P k Q) (hB : B ≤ w.heap.size) (hp : ∀ i, i < m → (P i).size ≤ maxLen) (hq : ∀ i, i < k → (Q i).1.size ≤ maxLen ∧ (Q i).2.size ≤ maxLen) (h0 : 0 ≤ x) (h1 : x ≤ 1048576) :
    Calls Try.prog 4 #[.agg #[vp, vv], .int .i64 x] w fun e w' => ∃ y, e = .returned (.int .i64 y) ∧ y ≤ x ∧ (0 ≤ y → m ≤ 1048576 ∧ k ≤ 1048576) ∧ Below w.heap.size w w' := by
  have H : Hid (∀ w', Below w.heap.size w w' → IAt B w' vp vv m P k Q) := fun w' hb => h.kept hb hB
  have k0 : Hid (Below (w.heap.size + 1) (w.alloc (.cells #[vp, vv] 25)) (w.alloc (.cells #[vp, vv] 25))) := Below.refl _ _
  clear h
  go_enter Try.func4, Try.ntmps4
  go_wp2_with fail
  refine (szS_any B vp m P _ _ (H.out _ (below_end k0.out)).p hp h0 h1).mono ?_; rintro e w1 ⟨y1, rfl, l1, n1, hb1⟩
  have k1 : Hid (Below (w.heap.size + 1) (w.alloc (.cells #[vp, vv] 25)) w1) := below_of k0.out hb1
  have N1 : Hid _ := n1
  clear n1
  by_cases g1 : y1 < 0
  · go_wp2_with fail
    go_ret
    exact ⟨-1, rfl, by omega, fun h => by omega, below_end k1.out⟩
  · have a1 := box_in k1.out 1 _ rfl
    simp only [List.getElem_toArray, List.getElem_cons_zero, List.getElem_cons_succ] at a1
    go_wp2_with fail
    refine (szM_any B vv k Q _ _ (H.out _ (below_end k1.out)).v (by have := k1.out.size; simp at this; omega) hq (by omega) (by omega)).mono ?_; rintro e w2 ⟨y2, rfl, l2, n2, hb2⟩
    have N2 : Hid _ := n2
    clear n2
    by_cases g2 : y2 < 0
    · go_wp2_with fail
      go_ret
      exact ⟨-1, rfl, by omega, fun h => by omega, below_end (below_of k1.out hb2)⟩
    · go_wp2_with fail
      go_ret
      exact ⟨y2, rfl, by omega, fun _ => ⟨N1.out (by omega), N2.out (by omega)⟩, below_end (below_of k1.out hb2)⟩

/-- Where the copying stands: the index's box, the result's, the copy's. -/
structure Ci (w u : World) (a c : Array Value) : Prop where
  arg : u.heap[w.heap.size]? = some (.cells a 25 (0, 0))
  res : u.heap[w.heap.size + 1]? = some (.cells #[.slice none 0 0, .slice none 0 0] 30 (0, 0))
  out : u.heap[w.heap.size + 1 + 1]? = some (.cells c 30 (0, 0))
  bel : Below w.heap.size w u

theorem Ci.sz {w u : World} {a c : Array Value} (h : Ci w u a c) : w.heap.size + 3 ≤ u.heap.size := (Array.getElem?_eq_some_iff.1 h.out).1

theorem Ci.next {w u u' : World} {a c : Array Value} (h : Ci w u a c) (hb : Below u.heap.size u u') : Ci w u' a c := by
  have hs := h.sz
  exact ⟨(hb.block _ (by omega)).trans h.arg, (hb.block _ (by omega)).trans h.res, (hb.block _ (by omega)).trans h.out, h.bel.trans (hb.mono (by omega))⟩

theorem Ci.put {w u : World} {a c : Array Value} (h : Ci w u a c) (j : Nat) (x : Value) : Ci w (u.setCell ⟨w.heap.size + 1 + 1, j, none⟩ x) a (c.setIfInBounds j x) :=
  ⟨(Below.heap_setCell _ _ _ _ (by show w.heap.size ≠ w.heap.size + 1 + 1; omega)).trans h.arg, (Below.heap_setCell _ _ _ _ (by show w.heap.size + 1 ≠ w.heap.size + 1 + 1; omega)).trans h.res, set_row h.out j x, h.bel.setCell (by show w.heap.size ≤ w.heap.size + 1 + 1; omega) x⟩

theorem ci_init (w : World) (a : Array Value) : Ci w (((w.alloc (.cells a 25)).alloc (.cells #[.slice none 0 0, .slice none 0 0] 30)).alloc (.cells #[.slice none 0 0, .slice none 0 0] 30)) a #[.slice none 0 0, .slice none 0 0] := by
  have e1 : (w.alloc (.cells a 25)).heap.size = w.heap.size + 1 := by simp
  have e2 : ((w.alloc (.cells a 25)).alloc (.cells #[.slice none 0 0, .slice none 0 0] 30)).heap.size = w.heap.size + 1 + 1 := by simp
  refine ⟨?_, ?_, ?_, ?_⟩
  · exact (Below.heap_alloc _ _ _ (by omega)).trans ((Below.heap_alloc _ _ _ (by omega)).trans (heap_alloc_new w _))
  · refine (Below.heap_alloc _ _ _ (by omega)).trans ?_
    rw [← e1]; exact heap_alloc_new _ _
  · rw [← e2]; exact heap_alloc_new _ _
  · exact (((Below.refl _ _).alloc (Nat.le_refl _) _).alloc (by omega) _).alloc (by omega) _

set_option maxRecDepth 100000 in
set_option maxHeartbeats 2000000 in
theorem toIndex_blk (B : Nat) (vp vv : Value) (m k : Nat) (P : Nat → ByteArray) (Q : Nat → ByteArray × ByteArray) (w : World) (h : IAt B w vp vv m P k Q) (hB : B ≤ w.heap.size) (hm : m ≤ 1048576) (hk : k ≤ 1048576) :
    Calls Try.prog 6 #[.agg #[vp, vv]] w fun e w' => ∃ g0 g1, e = .returned (.agg #[sl g0 m, sl g1 k]) ∧ IAt w'.heap.size w' (sl g0 m) (sl g1 k) m P k Q ∧ (w.heap.size ≤ g0 ∧ w.heap.size ≤ g1) ∧ Blk w'.heap.size w' g0 9 m ∧ Blk w'.heap.size w' g1 46 (k * 2) ∧ Below w.heap.size w w' := by
  have H : Hid (∀ w', Below w.heap.size w w' → IAt B w' vp vv m P k Q) := fun w' hb => h.kept hb hB
  clear h
  have C0 : Hid (Ci w _ #[vp, vv] _) := ci_init w #[vp, vv]
  go_enter Try.func6, Try.ntmps6
  go_wp2_with fail
  have z0 := C0.out.sz
  refine (toS_blk B vp m P _ (H.out _ C0.out.bel).p (by omega) hm).mono ?_; rintro e w1 ⟨rfl, L0, K0, hb1⟩
  have N1 : Hid (Ci w w1 #[vp, vv] _) := C0.out.next hb1
  obtain ⟨p0, r0⟩ := cell_row N1.out.out 0 _ rfl
  have HL0 : Hid (Lst w1.heap.size w1 (.slice (some ⟨w.heap.size + 1 + 1 + 1, 0, none⟩) m m) m 1 (cS P)) := by simpa [Hid] using L0
  have HB0 : Hid (Blk w1.heap.size w1 (w.heap.size + 1 + 1 + 1) 9 m) := by simpa [Hid] using K0
  clear L0 K0
  have C1 : Hid (Ci w (w1.setCell ⟨w.heap.size + 1 + 1, 0, none⟩ (.slice (some ⟨w.heap.size + 1 + 1 + 1, 0, none⟩) m m)) #[vp, vv] _) := N1.out.put 0 (.slice (some ⟨w.heap.size + 1 + 1 + 1, 0, none⟩) m m)
  have y1 : w.heap.size + 1 + 1 + 1 ≤ w1.heap.size := by have := hb1.size; simpa using this
  obtain ⟨a1, _⟩ := cell_row C1.out.arg 1 _ rfl
  simp only [List.getElem_toArray, List.getElem_cons_zero, List.getElem_cons_succ] at a1
  go_wp2_with fail
  have z1 := C1.out.sz
  refine (toM_blk B vv k Q _ (H.out _ C1.out.bel).v (by omega) hk).mono ?_; rintro e w2 ⟨rfl, L1, K1, hb2⟩
  have N2 : Hid (Ci w w2 #[vp, vv] _) := C1.out.next hb2
  obtain ⟨p1, r1⟩ := cell_row N2.out.out 1 _ rfl
  have HL1 : Hid (Lst w2.heap.size w2 (.slice (some ⟨w1.heap.size, 0, none⟩) k k) k 2 (cF Q)) := by simpa [Hid] using L1
  have HB1 : Hid (Blk w2.heap.size w2 (w1.heap.size) 46 (k * 2)) := by simpa [Hid] using K1
  clear L1 K1
  have C2 : Hid (Ci w (w2.setCell ⟨w.heap.size + 1 + 1, 1, none⟩ (.slice (some ⟨w1.heap.size, 0, none⟩) k k)) #[vp, vv] _) := N2.out.put 1 (.slice (some ⟨w1.heap.size, 0, none⟩) k k)
  have y2 : w1.heap.size ≤ w2.heap.size := by have := hb2.size; simpa using this
  obtain ⟨o0, _⟩ := cell_row C2.out.out 0 (.slice (some ⟨w.heap.size + 1 + 1 + 1, 0, none⟩) m m) rfl
  obtain ⟨rr0, rf0⟩ := cell_row C2.out.res 0 _ rfl
  obtain ⟨o1, _⟩ := cell_row C2.out.out 1 (.slice (some ⟨w1.heap.size, 0, none⟩) k k) rfl
  obtain ⟨rr1, rf1⟩ := cell_row C2.out.res 1 _ rfl
  have f0 := (cell_row (set_row (set_row C2.out.res 0 (.slice (some ⟨w.heap.size + 1 + 1 + 1, 0, none⟩) m m)) 1 (.slice (some ⟨w1.heap.size, 0, none⟩) k k)) 0 (.slice (some ⟨w.heap.size + 1 + 1 + 1, 0, none⟩) m m) rfl).1
  have f1 := (cell_row (set_row (set_row C2.out.res 0 (.slice (some ⟨w.heap.size + 1 + 1 + 1, 0, none⟩) m m)) 1 (.slice (some ⟨w1.heap.size, 0, none⟩) k k)) 1 (.slice (some ⟨w1.heap.size, 0, none⟩) k k) rfl).1
  have hF := (C2.out.bel.setCell (p := ⟨w.heap.size + 1, 0, none⟩) (by show w.heap.size ≤ w.heap.size + 1; omega) (.slice (some ⟨w.heap.size + 1 + 1 + 1, 0, none⟩) m m)).setCell (p := ⟨w.heap.size + 1, 1, none⟩) (by show w.heap.size ≤ w.heap.size + 1; omega) (.slice (some ⟨w1.heap.size, 0, none⟩) k k)
  have g0 := ((((HL0.out.set ⟨w.heap.size + 1 + 1, 0, none⟩ (.slice (some ⟨w.heap.size + 1 + 1 + 1, 0, none⟩) m m) (by show w.heap.size + 1 + 1 ≠ w.heap.size + 1 + 1 + 1; omega)).kept hb2 (by simp; try omega)).set ⟨w.heap.size + 1 + 1, 1, none⟩ (.slice (some ⟨w1.heap.size, 0, none⟩) k k) (by show w.heap.size + 1 + 1 ≠ w.heap.size + 1 + 1 + 1; omega)).set ⟨w.heap.size + 1, 0, none⟩ (.slice (some ⟨w.heap.size + 1 + 1 + 1, 0, none⟩) m m) (by show w.heap.size + 1 ≠ w.heap.size + 1 + 1 + 1; omega)).set ⟨w.heap.size + 1, 1, none⟩ (.slice (some ⟨w1.heap.size, 0, none⟩) k k) (by show w.heap.size + 1 ≠ w.heap.size + 1 + 1 + 1; omega)
  have q0 := ((((HB0.out.set ⟨w.heap.size + 1 + 1, 0, none⟩ (.slice (some ⟨w.heap.size + 1 + 1 + 1, 0, none⟩) m m) (by show w.heap.size + 1 + 1 ≠ w.heap.size + 1 + 1 + 1; omega)).kept hb2 (by simp; try omega)).set ⟨w.heap.size + 1 + 1, 1, none⟩ (.slice (some ⟨w1.heap.size, 0, none⟩) k k) (by show w.heap.size + 1 + 1 ≠ w.heap.size + 1 + 1 + 1; omega)).set ⟨w.heap.size + 1, 0, none⟩ (.slice (some ⟨w.heap.size + 1 + 1 + 1, 0, none⟩) m m) (by show w.heap.size + 1 ≠ w.heap.size + 1 + 1 + 1; omega)).set ⟨w.heap.size + 1, 1, none⟩ (.slice (some ⟨w1.heap.size, 0, none⟩) k k) (by show w.heap.size + 1 ≠ w.heap.size + 1 + 1 + 1; omega)
  have g1 := ((HL1.out.set ⟨w.heap.size + 1 + 1, 1, none⟩ (.slice (some ⟨w1.heap.size, 0, none⟩) k k) (by show w.heap.size + 1 + 1 ≠ w1.heap.size; omega)).set ⟨w.heap.size + 1, 0, none⟩ (.slice (some ⟨w.heap.size + 1 + 1 + 1, 0, none⟩) m m) (by show w.heap.size + 1 ≠ w1.heap.size; omega)).set ⟨w.heap.size + 1, 1, none⟩ (.slice (some ⟨w1.heap.size, 0, none⟩) k k) (by show w.heap.size + 1 ≠ w1.heap.size; omega)
  have q1 := ((HB1.out.set ⟨w.heap.size + 1 + 1, 1, none⟩ (.slice (some ⟨w1.heap.size, 0, none⟩) k k) (by show w.heap.size + 1 + 1 ≠ w1.heap.size; omega)).set ⟨w.heap.size + 1, 0, none⟩ (.slice (some ⟨w.heap.size + 1 + 1 + 1, 0, none⟩) m m) (by show w.heap.size + 1 ≠ w1.heap.size; omega)).set ⟨w.heap.size + 1, 1, none⟩ (.slice (some ⟨w1.heap.size, 0, none⟩) k k) (by show w.heap.size + 1 ≠ w1.heap.size; omega)
  go_wp2_with fail
  exact bodyPost_ret (v := .agg #[.slice (some ⟨w.heap.size + 1 + 1 + 1, 0, none⟩) m m, .slice (some ⟨w1.heap.size, 0, none⟩) k k]) (by simp [results, Try.results6, go_sem, f0, f1]) rfl ⟨_, _, rfl, ⟨g0.up (by simp; try omega), g1.up (by simp; try omega)⟩, ⟨by omega, by omega⟩, q0.up (by simp; try omega), q1.up (by simp; try omega), hF⟩

theorem toIndex_any (B : Nat) (vp vv : Value) (m k : Nat) (P : Nat → ByteArray) (Q : Nat → ByteArray × ByteArray) (w : World) (h : IAt B w vp vv m P k Q) (hB : B ≤ w.heap.size) (hm : m ≤ 1048576) (hk : k ≤ 1048576) :
    Calls Try.prog 6 #[.agg #[vp, vv]] w fun e w' => ∃ g0 g1, e = .returned (.agg #[sl g0 m, sl g1 k]) ∧ IAt w'.heap.size w' (sl g0 m) (sl g1 k) m P k Q ∧ Below w.heap.size w w' :=
  (toIndex_blk B vp vv m k P Q w h hB hm hk).mono fun _ _ ⟨_, _, h1, h2, _, _, _, h3⟩ => ⟨_, _, h1, h2, h3⟩

set_option maxRecDepth 100000 in
set_option maxHeartbeats 2000000 in
theorem eqIndex_any (B B' : Nat) (a0 a1 b0 b1 : Value) (m k : Nat) (P : Nat → ByteArray) (Q : Nat → ByteArray × ByteArray) (w : World) (ha : IAt B w a0 a1 m P k Q) (hb : IAt B' w b0 b1 m P k Q) (hB : B ≤ w.heap.size) (hB' : B' ≤ w.heap.size) :
    Calls Try.prog 8 #[.agg #[a0, a1], .agg #[b0, b1]] w fun e w' => e = .returned (.bool true) ∧ Below w.heap.size w w' := by
  have H : Hid (∀ w', Below w.heap.size w w' → IAt B w' a0 a1 m P k Q ∧ IAt B' w' b0 b1 m P k Q) := fun w' h => ⟨ha.kept h hB, hb.kept h hB'⟩
  clear ha hb
  obtain ⟨W, hW⟩ : ∃ W, W = (w.alloc (.cells #[a0, a1] 30)).alloc (.cells #[b0, b1] 30) := ⟨_, rfl⟩
  have kW : Hid (Below w.heap.size w W) := by rw [hW]; exact ((Below.refl _ _).alloc (Nat.le_refl _) _).alloc (by simp) _
  have sW : W.heap.size = w.heap.size + 1 + 1 := by rw [hW]; simp
  have c0 : W.cell? ⟨w.heap.size, 1, none⟩ = some a1 := by rw [hW]; simp
  have c1 : W.cell? ⟨w.heap.size + 1, 1, none⟩ = some b1 := by rw [hW]; simp
  have c2 : W.cell? ⟨w.heap.size, 0, none⟩ = some a0 := by rw [hW]; simp
  have c3 : W.cell? ⟨w.heap.size + 1, 0, none⟩ = some b0 := by rw [hW]; simp
  go_enter Try.func8, Try.ntmps8
  go_upto_region 1 with fail
  rw [← hW]
  clear hW
  go_wp2_with fail
  refine (eqS_lst B B' a0 b0 m P _ (H.out _ kW.out).1.p (H.out _ kW.out).2.p (by omega) (by omega)).mono ?_; rintro e w1 ⟨rfl, hb1⟩
  have d0 := (hb1.cell (p := ⟨w.heap.size, 1, none⟩) (by show w.heap.size < _; omega)).trans c0
  have d1 := (hb1.cell (p := ⟨w.heap.size + 1, 1, none⟩) (by show w.heap.size + 1 < _; omega)).trans c1
  have k1 : Hid (Below w.heap.size w w1) := kW.out.trans (hb1.mono (by omega))
  have s1 := k1.out.size
  go_wp2_with fail
  refine (eqM_lst B B' a1 b1 k Q _ (H.out _ k1.out).1.v (H.out _ k1.out).2.v (by omega) (by omega)).mono ?_; rintro e w2 ⟨rfl, hb2⟩
  go_wp2_with fail
  go_ret
  exact ⟨rfl, k1.out.trans (hb2.mono s1)⟩

section
open Go.ChangeShapes Go.WideShapes Go.ChangeAt
variable {H : Type} {enc : TypeId × Value → H} {w : World} {base : Nat} {spare : Nat → Bool} {held : Bool}
theorem cMk : Try.prog.cellsOf 45 = 2 := by kernel_rfl

theorem lst_mark {fuel : Nat} {v : Value} {x : DataW H × List MemPlace} (h : DataW.trod enc Try.prog w base spare held fuel 23 [v] = some x) : ∃ (n : Nat) (f : Nat → ByteArray × ByteArray), Lst w.heap.size w v n 2 (cF f) ∧ ∀ i, i < n → (f i).1.size ≤ maxLen ∧ (f i).2.size ≤ maxLen :=
  lst_of (α := ByteArray × ByteArray) Try.underlying23 cMk (by omega) cF (fun a => a.1.size ≤ maxLen ∧ a.2.size ≤ maxLen) (fun _ _ _ => rfl) (fun n cs y hl hy => by
    match cs, hl with
    | [x0, x1], _ =>
      obtain ⟨xs, m, _, _, _, hlen, hf⟩ := DataW.trod_struct Try.underlying45 hy
      have g0 : DataW.trod enc Try.prog w base spare held m 9 [x0] = xs[0]? := by simpa [c9] using hf 0 _ rfl
      have g1 : DataW.trod enc Try.prog w base spare held m 9 [x1] = xs[1]? := by simpa [c9] using hf 1 _ rfl
      rw [List.getElem?_eq_getElem (by rw [hlen]; decide)] at g0 g1
      obtain ⟨a0, e0, k0⟩ := el_str g0
      obtain ⟨a1, e1, k1⟩ := el_str g1
      simp at e0 e1
      subst e0 e1
      exact ⟨(a0, a1), ⟨k0, k1⟩, fun j hj => by
        rcases (show j = 0 ∨ j = 1 by omega) with rfl | rfl <;> rfl⟩) h

set_option maxRecDepth 100000 in
theorem index_of {H : Type} {enc : TypeId × Value → H} {w : World} {base : Nat} {spare : Nat → Bool} {held : Bool} {r : Reach} {b0 : Nat} {v : Value} {d : DataW H} {p : List MemPlace} (hv : Value.okWide Try.prog w r b0 25 v) (h : DataW.Trod enc Try.prog w base spare held 25 v d p) :
    ∃ v0 v1 m P k Q, v = .agg #[v0, v1] ∧ IAt w.heap.size w v0 v1 m P k Q ∧ (∀ i, i < m → (P i).size ≤ maxLen) ∧ ∀ i, i < k → (Q i).1.size ≤ maxLen ∧ (Q i).2.size ≤ maxLen := by
  obtain ⟨v0, v1, y0, y1, n, rfl, _, _, h0, h1⟩ := Joins.open_agg2 Try.underlying25 (by kernel_rfl) (by kernel_rfl) hv h
  obtain ⟨m, P, a0, b0⟩ := lst_str h0
  obtain ⟨k, Q, a1, b1⟩ := lst_mark h1
  exact ⟨v0, v1, m, P, k, Q, rfl, ⟨a0, a1⟩, b0, b1⟩

end
end Go.Proofs.Ytnpfnbgbodojnad
