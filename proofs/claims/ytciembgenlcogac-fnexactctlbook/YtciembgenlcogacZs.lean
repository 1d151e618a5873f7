/-
  What a plant's four lists hold, and a contract of the model's test whether a plant is valid.
-/
import Derived.Test.YtciembgenlcogacYe
namespace Go.Proofs.Ytciembgenlcogac
open Go.RowKit

/-- What a plant's four lists hold. -/
structure PD where
  ns : Nat
  fs : Nat → ByteArray
  nf : Nat
  ff : Nat → ByteArray × ByteArray
  np : Nat
  fp : Nat → ByteArray × Int × ByteArray
  nv : Nat
  fv : Nat → ByteArray × ByteArray × ByteArray × ByteArray

/-- A plant's value in memory. -/
structure PAt (B : Nat) (w : World) (v0 v1 v2 v3 : Value) (D : PD) : Prop where
  s : Lst B w v0 D.ns 1 (cS D.fs)
  f : Lst B w v1 D.nf 2 (cF D.ff)
  p : Lst B w v2 D.np 3 (cP D.fp)
  v : Lst B w v3 D.nv 4 (cV D.fv)

theorem PAt.kept {B B' : Nat} {w w' : World} {v0 v1 v2 v3 : Value} {D : PD} (h : PAt B w v0 v1 v2 v3 D) (hb : Below B' w w') (hB : B ≤ B') : PAt B w' v0 v1 v2 v3 D :=
  ⟨h.s.kept hb hB, h.f.kept hb hB, h.p.kept hb hB, h.v.kept hb hB⟩

/-- No text is longer than any can be. -/
structure PD.Sz (D : PD) : Prop where
  s : ∀ i, i < D.ns → (D.fs i).size ≤ maxLen
  p : ∀ i, i < D.np → (D.fp i).1.size ≤ maxLen ∧ (D.fp i).2.2.size ≤ maxLen
  v : ∀ i, i < D.nv → (D.fv i).1.size ≤ maxLen ∧ (D.fv i).2.2.2.size ≤ maxLen

/-- A valid plant, by the model's text. -/
def PD.V (D : PD) : Prop := (D.ns ≤ 8 ∧ D.nf ≤ 12 ∧ (∀ i, i < D.ns → stuffP D.fs i) ∧ ∀ i, i < D.nf → foeP D.ns D.fs D.ff i) ∧ (D.np ≤ 14 ∧ ∀ i, i < D.np → placeP D.fp i) ∧ (D.nv ≤ 18 ∧ ∀ i, i < D.nv → valveP D.np D.fp D.fv i)

set_option maxRecDepth 100000 in
set_option maxHeartbeats 1000000 in
theorem validS_any (B : Nat) (v0 v1 v2 v3 : Value) (D : PD) (w : World) (h : PAt B w v0 v1 v2 v3 D) (hB : B ≤ w.heap.size) (hz : D.Sz) :
    Calls Try.prog 17 #[.agg #[v0, v1, v2, v3]] w fun e w' => ∃ b, e = .returned (.bool b) ∧ (b = true ↔ D.V) ∧ Below w.heap.size w w' := by
  have H : Hid (∀ w', Below w.heap.size w w' → PAt B w' v0 v1 v2 v3 D) := fun w' hb => h.kept hb hB
  have hb0 : Hid (Below w.heap.size w (w.alloc (.cells #[v0, v1, v2, v3] 39))) := (Below.refl _ _).alloc (Nat.le_refl _) _
  clear h
  go_enter Try.func17, Try.ntmps17
  go_wp2_with fail
  refine (stuffsS_any B v0 v1 v2 v3 D.ns D.nf D.fs D.ff _ (H.out _ hb0.out).s (H.out _ hb0.out).f (by simp; omega) hz.s).mono ?_
  rintro e w1 ⟨b1, rfl, i1, hb1⟩
  have k1 : Hid (Below w.heap.size w w1) := hb0.out.trans (hb1.mono (by simp))
  have I1 : Hid _ := i1
  clear i1
  cases b1
  · go_wp2_with fail
    go_ret
    exact ⟨false, rfl, ⟨(fun h => by cases h), fun h => I1.out.2 h.1⟩, k1.out⟩
  · have x0 := (hb1.cell (p := ⟨w.heap.size, 0, none⟩) (by simp)).trans (new_cell w #[v0, v1, v2, v3] 39 0 _ rfl)
    have x1 := (hb1.cell (p := ⟨w.heap.size, 1, none⟩) (by simp)).trans (new_cell w #[v0, v1, v2, v3] 39 1 _ rfl)
    have x2 := (hb1.cell (p := ⟨w.heap.size, 2, none⟩) (by simp)).trans (new_cell w #[v0, v1, v2, v3] 39 2 _ rfl)
    have x3 := (hb1.cell (p := ⟨w.heap.size, 3, none⟩) (by simp)).trans (new_cell w #[v0, v1, v2, v3] 39 3 _ rfl)
    have s1 : w.heap.size + 1 ≤ w1.heap.size := by have := hb1.size; simpa using this
    go_wp2_with fail
    refine (placesS_any B v0 v1 v2 v3 D.np D.fp _ (H.out _ k1.out).p (by omega) hz.p).mono ?_
    rintro e w2 ⟨b2, rfl, i2, hb2⟩
    have k2 : Hid (Below w.heap.size w w2) := k1.out.trans (hb2.mono (by omega))
    have I2 : Hid _ := i2
    clear i2
    cases b2
    · go_wp2_with fail
      go_ret
      exact ⟨false, rfl, ⟨(fun h => by cases h), fun h => I2.out.2 h.2.1⟩, k2.out⟩
    · have y0 := (hb2.cell (p := ⟨w.heap.size, 0, none⟩) (by show w.heap.size < _; omega)).trans x0
      have y1 := (hb2.cell (p := ⟨w.heap.size, 1, none⟩) (by show w.heap.size < _; omega)).trans x1
      have y2 := (hb2.cell (p := ⟨w.heap.size, 2, none⟩) (by show w.heap.size < _; omega)).trans x2
      have y3 := (hb2.cell (p := ⟨w.heap.size, 3, none⟩) (by show w.heap.size < _; omega)).trans x3
      have s2 := hb2.size
      go_wp2_with fail
      refine (valvesS_any B v0 v1 v2 v3 D.nv D.fv D.np D.fp _ (H.out _ k2.out).v (by omega) (H.out _ k2.out).p hz.v).mono ?_
      rintro e w3 ⟨b3, rfl, i3, hb3⟩
      go_wp2_with fail
      go_ret
      exact ⟨b3, rfl, ⟨fun h => ⟨by have := I1.out; simpa using this, by have := I2.out; simpa using this, i3.1 h⟩, fun h => i3.2 h.2.2⟩, k2.out.trans (hb3.mono (by omega))⟩

end Go.Proofs.Ytciembgenlcogac
