/-
  Several texts in one.
-/
import Derived.Test.YtndacfockllehaaGreatSa
import Derived.Test.YtndacfockllehaaGreatVb
import Derived.Laws.MakeOwn
import Derived.Laws.ResultCell
/-
  Contracts of the law's own copying of a list of texts and of single elements.
-/
namespace Go.Proofs.YtndacfockllehaaGreat
open Go.RowKit

theorem under24 : Tryz.prog.underlying 22 = some (.slice 9) := by kernel_rfl
theorem info9' : (Tryz.prog.info? 9).map (fun i => (i.zero, i.size, i.bytes)) = some (some (.string ByteArray.empty), 1, 16) := by kernel_rfl

/-- Block g lies below B, and has m cells of a type, none of them frozen. -/
def Blk (B : Nat) (w : World) (g t m : Nat) : Prop := g < B ∧ ∃ c, w.heap[g]? = some (.cells c t (0, 0)) ∧ c.size = m
theorem Blk.kept {B B' : Nat} {w w' : World} {g t m : Nat} (h : Blk B w g t m) (hb : Below B' w w') (hB : B ≤ B') : Blk B w' g t m := by
  obtain ⟨h1, c, h2, h3⟩ := h
  exact ⟨h1, c, (hb.block g (by omega)).trans h2, h3⟩
theorem Blk.set {B : Nat} {w : World} {g t m : Nat} (h : Blk B w g t m) (p : Addr) (x : Value) (hne : p.block ≠ g) : Blk B (w.setCell p x) g t m := by
  obtain ⟨h1, c, h2, h3⟩ := h
  exact ⟨h1, c, (Below.heap_setCell w p x g (fun e => hne e.symm)).trans h2, h3⟩
theorem Blk.up {B B' : Nat} {w : World} {g t m : Nat} (h : Blk B w g t m) (hB : B ≤ B') : Blk B' w g t m := by
  obtain ⟨h1, h2⟩ := h
  exact ⟨by omega, h2⟩

set_option maxRecDepth 100000 in
set_option maxHeartbeats 1000000 in
theorem toS_blk (B : Nat) (v : Value) (n : Nat) (f : Nat → ByteArray) (w : World) (h : Lst B w v n 1 (cS f)) (hB : B ≤ w.heap.size) (hm : n ≤ 1048576) :
    Calls Tryz.prog 24 #[v] w fun e w' => e = .returned (.slice (some ⟨w.heap.size, 0, none⟩) n n) ∧ Lst w'.heap.size w' (.slice (some ⟨w.heap.size, 0, none⟩) n n) n 1 (cS f) ∧ Blk w'.heap.size w' w.heap.size 9 (n) ∧ Below w.heap.size w w' := by
  obtain ⟨oa, cap, rfl, hn, hc⟩ := h
  have HC : Hid _ := hc
  clear hc hn
  obtain ⟨i0, hi, hz0, hz1, hz2⟩ := info_parts info9'
  obtain ⟨M, hM⟩ : ∃ M, M = madeCells (Value.string ByteArray.empty).cells ((n : Int).toNat * i0.size) := ⟨_, rfl⟩
  have hMs : M.size = n := by rw [hM, size_madeCells, hz1]; simp
  have hmk : ∀ W : World, (Instr.makeSlice 22 (.int .i64 (n : Int)) (.int .i64 (n : Int))).run Tryz.prog W = .ok (.slice (some ⟨W.heap.size, 0, none⟩) n n) (W.alloc (.cells M 9)) := fun W => by
    have h := run_make (P := Tryz.prog) W 22 9 i0 (.string ByteArray.empty) under24 hi hz0 .i64 .i64 (n : Int) (n : Int) (by omega) (by omega) (by rw [hz2]; omega) (by omega)
    rw [← hM] at h
    simpa using h
  clear hM
  go_enter Tryz.func24, Tryz.ntmps24
  go_wp2
  go_loopw [4] (fun i wr => ∃ (k : Nat) (c : Array Value), k ≤ n ∧ i = .int .i64 k ∧ Hid (wr.heap[w.heap.size]? = some (.cells c 9 (0, 0))) ∧ c.size = n ∧ Hid (∀ j, j < k → c[j]? = some (.string (f j))) ∧ Hid (Below w.heap.size w wr)) (fun i _ => n - (intOf i).toNat)
  case atStart => exact ⟨0, M, Nat.zero_le _, rfl, heap_alloc_new w _, hMs, fun _ h => by omega, (Below.refl _ _).alloc (Nat.le_refl _) _⟩
  case round =>
    obtain ⟨k, c, hk, rfl, hrow, hcs, hall, hbel⟩ := hrel
    by_cases hlt : k < n
    · obtain ⟨b, off, rfl, hbB, hcell⟩ := HC.out k hlt
      have e0 : wr.cell? ⟨b, off + k, none⟩ = some (.string (f k)) := (hbel.out.cell (p := ⟨b, off + k, none⟩) (by show b < _; omega)).trans (by simpa [cS] using hcell 0 (by omega))
      obtain ⟨v0, hv0⟩ : ∃ v0, c[k]? = some v0 := ⟨_, Array.getElem?_eq_getElem (by omega)⟩
      obtain ⟨hcl, hfr⟩ := cell_row hrow.out k v0 hv0
      clear hv0
      go_wp2
      go_roundw
      case rel =>
        refine ⟨k + 1, c.setIfInBounds k (.string (f k)), by omega, by go_num, set_row hrow.out k _, by simpa using hcs, ?_, hbel.out.setCell (Nat.le_refl _) _⟩
        intro j hj
        by_cases e : j = k
        · subst e; exact set_at c j _ (by omega)
        · rw [Array.getElem?_setIfInBounds_ne (fun h => e h.symm)]
          exact hall.out j (by omega)
      case measure => simp [intOf]; omega
    · go_wp2
      go_ret
      refine ⟨rfl, ⟨_, _, rfl, by unfold maxLen; omega, fun i hi => ⟨w.heap.size, 0, rfl, (Array.getElem?_eq_some_iff.1 hrow.out).1, fun j hj => ?_⟩⟩, ⟨(Array.getElem?_eq_some_iff.1 hrow.out).1, c, hrow.out, hcs⟩, hbel.out⟩
      have e : 0 + i * 1 + j = i := by omega
      rw [e]
      exact (cell_row hrow.out i _ (hall.out i (by omega))).1

theorem toS_any (B : Nat) (v : Value) (n : Nat) (f : Nat → ByteArray) (w : World) (h : Lst B w v n 1 (cS f)) (hB : B ≤ w.heap.size) (hm : n ≤ 1048576) :
    Calls Tryz.prog 24 #[v] w fun e w' => e = .returned (.slice (some ⟨w.heap.size, 0, none⟩) n n) ∧ Lst w'.heap.size w' (.slice (some ⟨w.heap.size, 0, none⟩) n n) n 1 (cS f) ∧ Below w.heap.size w w' :=
  (toS_blk B v n f w h hB hm).mono fun _ _ ⟨h1, h2, _, h3⟩ => ⟨h1, h2, h3⟩

set_option maxRecDepth 100000 in
set_option maxHeartbeats 1000000 in
theorem toFoe_any (a b : ByteArray) (w : World) : Calls Tryz.prog 57 #[.agg #[.string a, .string b]] w fun e w' => e = .returned (.agg #[.string a, .string b]) ∧ Below w.heap.size w w' := by
  go_enter Tryz.func57, Tryz.ntmps57
  go_wp2
  exact bodyPost_ret (v := .agg #[.string a, .string b]) (by simp [results, Tryz.results57, go_sem]) rfl ⟨rfl, by repeat (first | exact Below.refl _ _ | refine Below.alloc ?_ (by simp; try omega) _)⟩

end Go.Proofs.YtndacfockllehaaGreat

/-
  Contracts of the law's own copying of a plant.
-/
namespace Go.Proofs.YtndacfockllehaaGreat
open Go.RowKit

set_option maxRecDepth 100000 in
set_option maxHeartbeats 1000000 in
theorem toPlace_any (a b : ByteArray) (c : Int) (w : World) : Calls Tryz.prog 58 #[.agg #[.string a, .int .i64 c, .string b]] w fun e w' => e = .returned (.agg #[.string a, .int .i64 c, .string b]) ∧ Below w.heap.size w w' := by
  go_enter Tryz.func58, Tryz.ntmps58
  go_wp2
  exact bodyPost_ret (v := .agg #[.string a, .int .i64 c, .string b]) (by simp [results, Tryz.results58, go_sem]) rfl ⟨rfl, by repeat (first | exact Below.refl _ _ | refine Below.alloc ?_ (by simp; try omega) _)⟩

set_option maxRecDepth 100000 in
set_option maxHeartbeats 1000000 in
theorem toValve_any (a b c d : ByteArray) (w : World) : Calls Tryz.prog 59 #[.agg #[.string a, .string b, .string c, .string d]] w fun e w' => e = .returned (.agg #[.string a, .string b, .string c, .string d]) ∧ Below w.heap.size w w' := by
  go_enter Tryz.func59, Tryz.ntmps59
  go_wp2
  exact bodyPost_ret (v := .agg #[.string a, .string b, .string c, .string d]) (by simp [results, Tryz.results59, go_sem]) rfl ⟨rfl, by repeat (first | exact Below.refl _ _ | refine Below.alloc ?_ (by simp; try omega) _)⟩

theorem under38' : Tryz.prog.underlying 36 = some (.slice 101) := by kernel_rfl
theorem info80' : (Tryz.prog.info? 101).map (fun i => (i.zero, i.size, i.bytes)) = some (some (.agg #[.string ByteArray.empty, .string ByteArray.empty]), 2, 32) := by kernel_rfl

set_option maxRecDepth 100000 in
set_option maxHeartbeats 2000000 in
theorem toF_blk (B : Nat) (v : Value) (n : Nat) (f : Nat → ByteArray × ByteArray) (w : World) (h : Lst B w v n 2 (cF f)) (hB : B ≤ w.heap.size) (hm : n ≤ 1048576) :
    Calls Tryz.prog 25 #[v] w fun e w' => e = .returned (.slice (some ⟨w.heap.size, 0, none⟩) n n) ∧ Lst w'.heap.size w' (.slice (some ⟨w.heap.size, 0, none⟩) n n) n 2 (cF f) ∧ Blk w'.heap.size w' w.heap.size 101 (n * 2) ∧ Below w.heap.size w w' := by
  obtain ⟨oa, cap, rfl, hn, hc⟩ := h
  have HC : Hid _ := hc
  clear hc hn
  obtain ⟨i0, hi, hz0, hz1, hz2⟩ := info_parts info80'
  obtain ⟨M, hM⟩ : ∃ M, M = madeCells (.agg #[.string ByteArray.empty, .string ByteArray.empty] : Value).cells ((n : Int).toNat * i0.size) := ⟨_, rfl⟩
  have hMs : M.size = n * 2 := by rw [hM, size_madeCells, hz1]; simp
  have hmk : ∀ W : World, (Instr.makeSlice 36 (.int .i64 (n : Int)) (.int .i64 (n : Int))).run Tryz.prog W = .ok (.slice (some ⟨W.heap.size, 0, none⟩) n n) (W.alloc (.cells M 101)) := fun W => by
    have h := run_make (P := Tryz.prog) W 36 101 i0 (.agg #[.string ByteArray.empty, .string ByteArray.empty]) under38' hi hz0 .i64 .i64 (n : Int) (n : Int) (by omega) (by omega) (by rw [hz2]; omega) (by omega)
    rw [← hM] at h
    simpa using h
  clear hM
  go_enter Tryz.func25, Tryz.ntmps25
  go_wp2
  go_loopw [4] (fun i wr => ∃ (k : Nat) (c : Array Value), k ≤ n ∧ i = .int .i64 k ∧ Hid (wr.heap[w.heap.size]? = some (.cells c 101 (0, 0))) ∧ c.size = n * 2 ∧ Hid (∀ i j, i < k → j < 2 → c[i * 2 + j]? = some (cF f i j)) ∧ Hid (Below w.heap.size w wr)) (fun i _ => n - (intOf i).toNat)
  case atStart => exact ⟨0, M, Nat.zero_le _, rfl, heap_alloc_new w _, hMs, fun _ _ h => by omega, (Below.refl _ _).alloc (Nat.le_refl _) _⟩
  case round =>
    obtain ⟨k, c, hk, rfl, hrow, hcs, hall, hbel⟩ := hrel
    by_cases hlt : k < n
    · obtain ⟨b, off, rfl, hbB, hcell⟩ := HC.out k hlt
      have e0 : wr.cell? ⟨b, off + k * 2, none⟩ = some (.string (f k).1) := (hbel.out.cell (p := ⟨b, off + k * 2, none⟩) (by show b < _; omega)).trans (by simpa [cF] using hcell 0 (by omega))
      have e1 : wr.cell? ⟨b, off + k * 2 + 1, none⟩ = some (.string (f k).2) := (hbel.out.cell (p := ⟨b, off + k * 2 + 1, none⟩) (by show b < _; omega)).trans (by simpa [cF] using hcell 1 (by omega))
      have hRw : w.heap.size < wr.heap.size := (Array.getElem?_eq_some_iff.1 hrow.out).1
      go_wp2_with fail
      refine (toFoe_any _ _ _).mono ?_; rintro e u ⟨rfl, hbu⟩
      have hrow2 : Hid (u.heap[w.heap.size]? = some (.cells c 101 (0, 0))) := (hbu.block _ hRw).trans hrow.out
      have hbel2 : Hid (Below w.heap.size w u) := hbel.out.trans (hbu.mono (by omega))
      obtain ⟨v0, hv0⟩ : ∃ v, c[k * 2]? = some v := ⟨_, Array.getElem?_eq_getElem (by omega)⟩
      obtain ⟨hcl0, hfr0⟩ := cell_row hrow2.out (k * 2) v0 hv0
      clear hv0
      obtain ⟨v1, hv1⟩ : ∃ v, c[k * 2 + 1]? = some v := ⟨_, Array.getElem?_eq_getElem (by omega)⟩
      obtain ⟨hcl1, hfr1⟩ := cell_row hrow2.out (k * 2 + 1) v1 hv1
      clear hv1
      go_wp2_with fail
      go_roundw
      case rel =>
        refine ⟨k + 1, ((c.setIfInBounds (k * 2) (.string (f k).1)).setIfInBounds (k * 2 + 1) (.string (f k).2)), by omega, by go_num, (set_row (set_row hrow2.out (k * 2) _) (k * 2 + 1) _), by simpa using hcs, ?_, ((hbel2.out.setCell (Nat.le_refl _) _).setCell (Nat.le_refl _) _)⟩
        intro i j hi hj
        by_cases e : i = k
        · subst e
          rcases (show j = 0 ∨ j = 1 by omega) with rfl | rfl
          · simp only [Array.getElem?_setIfInBounds, Array.size_setIfInBounds, hcs]
            repeat (first | rw [if_pos (by omega)] | rw [if_neg (by omega)])
            simp [cF]
          · simp only [Array.getElem?_setIfInBounds, Array.size_setIfInBounds, hcs]
            repeat (first | rw [if_pos (by omega)] | rw [if_neg (by omega)])
            simp [cF]; omega
        · simp only [Array.getElem?_setIfInBounds]
          repeat rw [if_neg (by omega)]
          exact hall.out i j (by omega) hj
      case measure => simp [intOf]; omega
    · go_wp2_with fail
      go_ret
      refine ⟨rfl, ⟨_, _, rfl, by unfold maxLen; omega, fun i hi => ⟨w.heap.size, 0, rfl, (Array.getElem?_eq_some_iff.1 hrow.out).1, fun j hj => ?_⟩⟩, ⟨(Array.getElem?_eq_some_iff.1 hrow.out).1, c, hrow.out, hcs⟩, hbel.out⟩
      have e : 0 + i * 2 + j = i * 2 + j := by omega
      rw [e]
      exact (cell_row hrow.out _ _ (hall.out i j (by omega) hj)).1

theorem toF_any (B : Nat) (v : Value) (n : Nat) (f : Nat → ByteArray × ByteArray) (w : World) (h : Lst B w v n 2 (cF f)) (hB : B ≤ w.heap.size) (hm : n ≤ 1048576) :
    Calls Tryz.prog 25 #[v] w fun e w' => e = .returned (.slice (some ⟨w.heap.size, 0, none⟩) n n) ∧ Lst w'.heap.size w' (.slice (some ⟨w.heap.size, 0, none⟩) n n) n 2 (cF f) ∧ Below w.heap.size w w' :=
  (toF_blk B v n f w h hB hm).mono fun _ _ ⟨h1, h2, _, h3⟩ => ⟨h1, h2, h3⟩

theorem under39' : Tryz.prog.underlying 37 = some (.slice 103) := by kernel_rfl
theorem info93' : (Tryz.prog.info? 103).map (fun i => (i.zero, i.size, i.bytes)) = some (some (.agg #[.string ByteArray.empty, .int .i64 0, .string ByteArray.empty]), 3, 40) := by kernel_rfl

set_option maxRecDepth 100000 in
set_option maxHeartbeats 2000000 in
theorem toP_blk (B : Nat) (v : Value) (n : Nat) (f : Nat → ByteArray × Int × ByteArray) (w : World) (h : Lst B w v n 3 (cP f)) (hB : B ≤ w.heap.size) (hm : n ≤ 1048576) :
    Calls Tryz.prog 26 #[v] w fun e w' => e = .returned (.slice (some ⟨w.heap.size, 0, none⟩) n n) ∧ Lst w'.heap.size w' (.slice (some ⟨w.heap.size, 0, none⟩) n n) n 3 (cP f) ∧ Blk w'.heap.size w' w.heap.size 103 (n * 3) ∧ Below w.heap.size w w' := by
  obtain ⟨oa, cap, rfl, hn, hc⟩ := h
  have HC : Hid _ := hc
  clear hc hn
  obtain ⟨i0, hi, hz0, hz1, hz2⟩ := info_parts info93'
  obtain ⟨M, hM⟩ : ∃ M, M = madeCells (.agg #[.string ByteArray.empty, .int .i64 0, .string ByteArray.empty] : Value).cells ((n : Int).toNat * i0.size) := ⟨_, rfl⟩
  have hMs : M.size = n * 3 := by rw [hM, size_madeCells, hz1]; simp
  have hmk : ∀ W : World, (Instr.makeSlice 37 (.int .i64 (n : Int)) (.int .i64 (n : Int))).run Tryz.prog W = .ok (.slice (some ⟨W.heap.size, 0, none⟩) n n) (W.alloc (.cells M 103)) := fun W => by
    have h := run_make (P := Tryz.prog) W 37 103 i0 (.agg #[.string ByteArray.empty, .int .i64 0, .string ByteArray.empty]) under39' hi hz0 .i64 .i64 (n : Int) (n : Int) (by omega) (by omega) (by rw [hz2]; omega) (by omega)
    rw [← hM] at h
    simpa using h
  clear hM
  go_enter Tryz.func26, Tryz.ntmps26
  go_wp2
  go_loopw [4] (fun i wr => ∃ (k : Nat) (c : Array Value), k ≤ n ∧ i = .int .i64 k ∧ Hid (wr.heap[w.heap.size]? = some (.cells c 103 (0, 0))) ∧ c.size = n * 3 ∧ Hid (∀ i j, i < k → j < 3 → c[i * 3 + j]? = some (cP f i j)) ∧ Hid (Below w.heap.size w wr)) (fun i _ => n - (intOf i).toNat)
  case atStart => exact ⟨0, M, Nat.zero_le _, rfl, heap_alloc_new w _, hMs, fun _ _ h => by omega, (Below.refl _ _).alloc (Nat.le_refl _) _⟩
  case round =>
    obtain ⟨k, c, hk, rfl, hrow, hcs, hall, hbel⟩ := hrel
    by_cases hlt : k < n
    · obtain ⟨b, off, rfl, hbB, hcell⟩ := HC.out k hlt
      have e0 : wr.cell? ⟨b, off + k * 3, none⟩ = some (.string (f k).1) := (hbel.out.cell (p := ⟨b, off + k * 3, none⟩) (by show b < _; omega)).trans (by simpa [cP] using hcell 0 (by omega))
      have e1 : wr.cell? ⟨b, off + k * 3 + 1, none⟩ = some (.int .i64 (f k).2.1) := (hbel.out.cell (p := ⟨b, off + k * 3 + 1, none⟩) (by show b < _; omega)).trans (by simpa [cP] using hcell 1 (by omega))
      have e2 : wr.cell? ⟨b, off + k * 3 + 2, none⟩ = some (.string (f k).2.2) := (hbel.out.cell (p := ⟨b, off + k * 3 + 2, none⟩) (by show b < _; omega)).trans (by simpa [cP] using hcell 2 (by omega))
      have hRw : w.heap.size < wr.heap.size := (Array.getElem?_eq_some_iff.1 hrow.out).1
      go_wp2_with fail
      refine (toPlace_any _ _ _ _).mono ?_; rintro e u ⟨rfl, hbu⟩
      have hrow2 : Hid (u.heap[w.heap.size]? = some (.cells c 103 (0, 0))) := (hbu.block _ hRw).trans hrow.out
      have hbel2 : Hid (Below w.heap.size w u) := hbel.out.trans (hbu.mono (by omega))
      obtain ⟨v0, hv0⟩ : ∃ v, c[k * 3]? = some v := ⟨_, Array.getElem?_eq_getElem (by omega)⟩
      obtain ⟨hcl0, hfr0⟩ := cell_row hrow2.out (k * 3) v0 hv0
      clear hv0
      obtain ⟨v1, hv1⟩ : ∃ v, c[k * 3 + 1]? = some v := ⟨_, Array.getElem?_eq_getElem (by omega)⟩
      obtain ⟨hcl1, hfr1⟩ := cell_row hrow2.out (k * 3 + 1) v1 hv1
      clear hv1
      obtain ⟨v2, hv2⟩ : ∃ v, c[k * 3 + 2]? = some v := ⟨_, Array.getElem?_eq_getElem (by omega)⟩
      obtain ⟨hcl2, hfr2⟩ := cell_row hrow2.out (k * 3 + 2) v2 hv2
      clear hv2
      go_wp2_with fail
      go_roundw
      case rel =>
        refine ⟨k + 1, (((c.setIfInBounds (k * 3) (.string (f k).1)).setIfInBounds (k * 3 + 1) (.int .i64 (f k).2.1)).setIfInBounds (k * 3 + 2) (.string (f k).2.2)), by omega, by go_num, (set_row (set_row (set_row hrow2.out (k * 3) _) (k * 3 + 1) _) (k * 3 + 2) _), by simpa using hcs, ?_, (((hbel2.out.setCell (Nat.le_refl _) _).setCell (Nat.le_refl _) _).setCell (Nat.le_refl _) _)⟩
        intro i j hi hj
        by_cases e : i = k
        · subst e
          rcases (show j = 0 ∨ j = 1 ∨ j = 2 by omega) with rfl | rfl | rfl
          · simp only [Array.getElem?_setIfInBounds, Array.size_setIfInBounds, hcs]
            repeat (first | rw [if_pos (by omega)] | rw [if_neg (by omega)])
            simp [cP]
          · simp only [Array.getElem?_setIfInBounds, Array.size_setIfInBounds, hcs]
            repeat (first | rw [if_pos (by omega)] | rw [if_neg (by omega)])
            simp [cP]; omega
          · simp only [Array.getElem?_setIfInBounds, Array.size_setIfInBounds, hcs]
            repeat (first | rw [if_pos (by omega)] | rw [if_neg (by omega)])
            simp [cP]; omega
        · simp only [Array.getElem?_setIfInBounds]
          repeat rw [if_neg (by omega)]
          exact hall.out i j (by omega) hj
      case measure => simp [intOf]; omega
    · go_wp2_with fail
      go_ret
      refine ⟨rfl, ⟨_, _, rfl, by unfold maxLen; omega, fun i hi => ⟨w.heap.size, 0, rfl, (Array.getElem?_eq_some_iff.1 hrow.out).1, fun j hj => ?_⟩⟩, ⟨(Array.getElem?_eq_some_iff.1 hrow.out).1, c, hrow.out, hcs⟩, hbel.out⟩
      have e : 0 + i * 3 + j = i * 3 + j := by omega
      rw [e]
      exact (cell_row hrow.out _ _ (hall.out i j (by omega) hj)).1

theorem toP_any (B : Nat) (v : Value) (n : Nat) (f : Nat → ByteArray × Int × ByteArray) (w : World) (h : Lst B w v n 3 (cP f)) (hB : B ≤ w.heap.size) (hm : n ≤ 1048576) :
    Calls Tryz.prog 26 #[v] w fun e w' => e = .returned (.slice (some ⟨w.heap.size, 0, none⟩) n n) ∧ Lst w'.heap.size w' (.slice (some ⟨w.heap.size, 0, none⟩) n n) n 3 (cP f) ∧ Below w.heap.size w w' :=
  (toP_blk B v n f w h hB hm).mono fun _ _ ⟨h1, h2, _, h3⟩ => ⟨h1, h2, h3⟩

theorem under40' : Tryz.prog.underlying 38 = some (.slice 105) := by kernel_rfl
theorem info94' : (Tryz.prog.info? 105).map (fun i => (i.zero, i.size, i.bytes)) = some (some (.agg #[.string ByteArray.empty, .string ByteArray.empty, .string ByteArray.empty, .string ByteArray.empty]), 4, 64) := by kernel_rfl

set_option maxRecDepth 100000 in
set_option maxHeartbeats 2000000 in
theorem toV_blk (B : Nat) (v : Value) (n : Nat) (f : Nat → ByteArray × ByteArray × ByteArray × ByteArray) (w : World) (h : Lst B w v n 4 (cV f)) (hB : B ≤ w.heap.size) (hm : n ≤ 1048576) :
    Calls Tryz.prog 27 #[v] w fun e w' => e = .returned (.slice (some ⟨w.heap.size, 0, none⟩) n n) ∧ Lst w'.heap.size w' (.slice (some ⟨w.heap.size, 0, none⟩) n n) n 4 (cV f) ∧ Blk w'.heap.size w' w.heap.size 105 (n * 4) ∧ Below w.heap.size w w' := by
  obtain ⟨oa, cap, rfl, hn, hc⟩ := h
  have HC : Hid _ := hc
  clear hc hn
  obtain ⟨i0, hi, hz0, hz1, hz2⟩ := info_parts info94'
  obtain ⟨M, hM⟩ : ∃ M, M = madeCells (.agg #[.string ByteArray.empty, .string ByteArray.empty, .string ByteArray.empty, .string ByteArray.empty] : Value).cells ((n : Int).toNat * i0.size) := ⟨_, rfl⟩
  have hMs : M.size = n * 4 := by rw [hM, size_madeCells, hz1]; simp
  have hmk : ∀ W : World, (Instr.makeSlice 38 (.int .i64 (n : Int)) (.int .i64 (n : Int))).run Tryz.prog W = .ok (.slice (some ⟨W.heap.size, 0, none⟩) n n) (W.alloc (.cells M 105)) := fun W => by
    have h := run_make (P := Tryz.prog) W 38 105 i0 (.agg #[.string ByteArray.empty, .string ByteArray.empty, .string ByteArray.empty, .string ByteArray.empty]) under40' hi hz0 .i64 .i64 (n : Int) (n : Int) (by omega) (by omega) (by rw [hz2]; omega) (by omega)
    rw [← hM] at h
    simpa using h
  clear hM
  go_enter Tryz.func27, Tryz.ntmps27
  go_wp2
  go_loopw [4] (fun i wr => ∃ (k : Nat) (c : Array Value), k ≤ n ∧ i = .int .i64 k ∧ Hid (wr.heap[w.heap.size]? = some (.cells c 105 (0, 0))) ∧ c.size = n * 4 ∧ Hid (∀ i j, i < k → j < 4 → c[i * 4 + j]? = some (cV f i j)) ∧ Hid (Below w.heap.size w wr)) (fun i _ => n - (intOf i).toNat)
  case atStart => exact ⟨0, M, Nat.zero_le _, rfl, heap_alloc_new w _, hMs, fun _ _ h => by omega, (Below.refl _ _).alloc (Nat.le_refl _) _⟩
  case round =>
    obtain ⟨k, c, hk, rfl, hrow, hcs, hall, hbel⟩ := hrel
    by_cases hlt : k < n
    · obtain ⟨b, off, rfl, hbB, hcell⟩ := HC.out k hlt
      have e0 : wr.cell? ⟨b, off + k * 4, none⟩ = some (.string (f k).1) := (hbel.out.cell (p := ⟨b, off + k * 4, none⟩) (by show b < _; omega)).trans (by simpa [cV] using hcell 0 (by omega))
      have e1 : wr.cell? ⟨b, off + k * 4 + 1, none⟩ = some (.string (f k).2.1) := (hbel.out.cell (p := ⟨b, off + k * 4 + 1, none⟩) (by show b < _; omega)).trans (by simpa [cV] using hcell 1 (by omega))
      have e2 : wr.cell? ⟨b, off + k * 4 + 2, none⟩ = some (.string (f k).2.2.1) := (hbel.out.cell (p := ⟨b, off + k * 4 + 2, none⟩) (by show b < _; omega)).trans (by simpa [cV] using hcell 2 (by omega))
      have e3 : wr.cell? ⟨b, off + k * 4 + 3, none⟩ = some (.string (f k).2.2.2) := (hbel.out.cell (p := ⟨b, off + k * 4 + 3, none⟩) (by show b < _; omega)).trans (by simpa [cV] using hcell 3 (by omega))
      have hRw : w.heap.size < wr.heap.size := (Array.getElem?_eq_some_iff.1 hrow.out).1
      go_wp2_with fail
      refine (toValve_any _ _ _ _ _).mono ?_; rintro e u ⟨rfl, hbu⟩
      have hrow2 : Hid (u.heap[w.heap.size]? = some (.cells c 105 (0, 0))) := (hbu.block _ hRw).trans hrow.out
      have hbel2 : Hid (Below w.heap.size w u) := hbel.out.trans (hbu.mono (by omega))
      obtain ⟨v0, hv0⟩ : ∃ v, c[k * 4]? = some v := ⟨_, Array.getElem?_eq_getElem (by omega)⟩
      obtain ⟨hcl0, hfr0⟩ := cell_row hrow2.out (k * 4) v0 hv0
      clear hv0
      obtain ⟨v1, hv1⟩ : ∃ v, c[k * 4 + 1]? = some v := ⟨_, Array.getElem?_eq_getElem (by omega)⟩
      obtain ⟨hcl1, hfr1⟩ := cell_row hrow2.out (k * 4 + 1) v1 hv1
      clear hv1
      obtain ⟨v2, hv2⟩ : ∃ v, c[k * 4 + 2]? = some v := ⟨_, Array.getElem?_eq_getElem (by omega)⟩
      obtain ⟨hcl2, hfr2⟩ := cell_row hrow2.out (k * 4 + 2) v2 hv2
      clear hv2
      obtain ⟨v3, hv3⟩ : ∃ v, c[k * 4 + 3]? = some v := ⟨_, Array.getElem?_eq_getElem (by omega)⟩
      obtain ⟨hcl3, hfr3⟩ := cell_row hrow2.out (k * 4 + 3) v3 hv3
      clear hv3
      go_wp2_with fail
      go_roundw
      case rel =>
        refine ⟨k + 1, ((((c.setIfInBounds (k * 4) (.string (f k).1)).setIfInBounds (k * 4 + 1) (.string (f k).2.1)).setIfInBounds (k * 4 + 2) (.string (f k).2.2.1)).setIfInBounds (k * 4 + 3) (.string (f k).2.2.2)), by omega, by go_num, (set_row (set_row (set_row (set_row hrow2.out (k * 4) _) (k * 4 + 1) _) (k * 4 + 2) _) (k * 4 + 3) _), by simpa using hcs, ?_, ((((hbel2.out.setCell (Nat.le_refl _) _).setCell (Nat.le_refl _) _).setCell (Nat.le_refl _) _).setCell (Nat.le_refl _) _)⟩
        intro i j hi hj
        by_cases e : i = k
        · subst e
          rcases (show j = 0 ∨ j = 1 ∨ j = 2 ∨ j = 3 by omega) with rfl | rfl | rfl | rfl
          · simp only [Array.getElem?_setIfInBounds, Array.size_setIfInBounds, hcs]
            repeat (first | rw [if_pos (by omega)] | rw [if_neg (by omega)])
            simp [cV]
          · simp only [Array.getElem?_setIfInBounds, Array.size_setIfInBounds, hcs]
            repeat (first | rw [if_pos (by omega)] | rw [if_neg (by omega)])
            simp [cV]; omega
          · simp only [Array.getElem?_setIfInBounds, Array.size_setIfInBounds, hcs]
            repeat (first | rw [if_pos (by omega)] | rw [if_neg (by omega)])
            simp [cV]; omega
          · simp only [Array.getElem?_setIfInBounds, Array.size_setIfInBounds, hcs]
            repeat (first | rw [if_pos (by omega)] | rw [if_neg (by omega)])
            simp [cV]; omega
        · simp only [Array.getElem?_setIfInBounds]
          repeat rw [if_neg (by omega)]
          exact hall.out i j (by omega) hj
      case measure => simp [intOf]; omega
    · go_wp2_with fail
      go_ret
      refine ⟨rfl, ⟨_, _, rfl, by unfold maxLen; omega, fun i hi => ⟨w.heap.size, 0, rfl, (Array.getElem?_eq_some_iff.1 hrow.out).1, fun j hj => ?_⟩⟩, ⟨(Array.getElem?_eq_some_iff.1 hrow.out).1, c, hrow.out, hcs⟩, hbel.out⟩
      have e : 0 + i * 4 + j = i * 4 + j := by omega
      rw [e]
      exact (cell_row hrow.out _ _ (hall.out i j (by omega) hj)).1

theorem toV_any (B : Nat) (v : Value) (n : Nat) (f : Nat → ByteArray × ByteArray × ByteArray × ByteArray) (w : World) (h : Lst B w v n 4 (cV f)) (hB : B ≤ w.heap.size) (hm : n ≤ 1048576) :
    Calls Tryz.prog 27 #[v] w fun e w' => e = .returned (.slice (some ⟨w.heap.size, 0, none⟩) n n) ∧ Lst w'.heap.size w' (.slice (some ⟨w.heap.size, 0, none⟩) n n) n 4 (cV f) ∧ Below w.heap.size w w' :=
  (toV_blk B v n f w h hB hm).mono fun _ _ ⟨h1, h2, _, h3⟩ => ⟨h1, h2, h3⟩

end Go.Proofs.YtndacfockllehaaGreat
