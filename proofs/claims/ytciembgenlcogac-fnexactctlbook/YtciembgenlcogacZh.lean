/-
  Contracts of PlantValid, the model's and the program's: both say the same of every plant.
-/
import Derived.Test.YtciembgenlcogacZs
import Derived.Test.YtciembgenlcogacZe
import Derived.Test.YtciembgenlcogacZf
import Derived.Test.YtciembgenlcogacZg
namespace Go.Proofs.Ytciembgenlcogac
open Go.RowKit

/-- The same, by the program's text, part by part. -/
def PD.Va (D : PD) : Prop := (D.ns ≤ 8 ∧ (∀ i, i < D.ns → stuffQ D.fs i) ∧ ∀ i, 0 < i → i < D.ns → ltB (D.fs (i - 1)) (D.fs i) = true)
def PD.Vb (D : PD) : Prop := (D.nf ≤ 12 ∧ (∀ i, i < D.nf → foeQ D.ns D.fs D.ff i) ∧ ∀ i, 0 < i → i < D.nf → befB ((D.ff (i - 1)).1, (D.ff (i - 1)).2) ((D.ff i).1, (D.ff i).2) = true)
def PD.Vc (D : PD) : Prop := (D.np ≤ 14 ∧ (∀ i, i < D.np → placeQ D.fp i) ∧ ∀ i, 0 < i → i < D.np → ltB (D.fp (i - 1)).1 (D.fp i).1 = true)
def PD.Vd (D : PD) : Prop := (D.nv ≤ 18 ∧ (∀ i, i < D.nv → valveQ D.np D.fp D.fv i) ∧ ∀ i, 0 < i → i < D.nv → ltB (D.fv (i - 1)).1 (D.fv i).1 = true)
def PD.V' (D : PD) : Prop := D.Va ∧ D.Vb ∧ D.Vc ∧ D.Vd

theorem in_iff (n : Int) : inB n 0 1000 = true ↔ decide (n < 0) = false ∧ decide (1000 < n) = false := by simp [inB]
theorem nn_iff (n : Int) : decide (n < 0) = false ↔ decide (0 ≤ n) = true := by simp

theorem V_iff (D : PD) : D.V ↔ D.V' := by
  constructor
  · rintro ⟨⟨a1, a2, a3, a4⟩, ⟨b1, b2⟩, c1, c2⟩
    refine ⟨⟨a1, fun i hi => (a3 i hi).1, fun i h0 hi => (a3 i hi).2 h0⟩, ⟨a2, fun i hi => ⟨(a4 i hi).1, (a4 i hi).2.1, (a4 i hi).2.2.1⟩, fun i h0 hi => (a4 i hi).2.2.2 h0⟩, ⟨b1, fun i hi => ?_, fun i h0 hi => (b2 i hi).2.1 h0⟩, c1, fun i hi => ?_, fun i h0 hi => (c2 i hi).2.1 h0⟩
    · obtain ⟨x1, _, x3, x4⟩ := b2 i hi
      exact ⟨x1, ((in_iff _).1 x3).1, ((in_iff _).1 x3).2, x4⟩
    · obtain ⟨x1, _, x3, x4, x5, x6⟩ := c2 i hi
      exact ⟨x1, x3, (nn_iff _).1 x4, (nn_iff _).1 x5, x6⟩
  · rintro ⟨⟨a1, a2, a3⟩, ⟨b1, b2, b3⟩, ⟨c1, c2, c3⟩, d1, d2, d3⟩
    refine ⟨⟨a1, b1, fun i hi => ⟨a2 i hi, fun h0 => a3 i h0 hi⟩, fun i hi => ⟨(b2 i hi).1, (b2 i hi).2.1, (b2 i hi).2.2, fun h0 => b3 i h0 hi⟩⟩, ⟨c1, fun i hi => ?_⟩, d1, fun i hi => ?_⟩
    · obtain ⟨x1, x2, x3, x4⟩ := c2 i hi
      exact ⟨x1, fun h0 => c3 i h0 hi, (in_iff _).2 ⟨x2, x3⟩, x4⟩
    · obtain ⟨x1, x2, x3, x4, x5⟩ := d2 i hi
      exact ⟨x1, fun h0 => d3 i h0 hi, x2, (nn_iff _).2 x3, (nn_iff _).2 x4, x5⟩

set_option maxRecDepth 100000 in
set_option maxHeartbeats 1000000 in
theorem validI_any (B : Nat) (v0 v1 v2 v3 : Value) (D : PD) (w : World) (h : PAt B w v0 v1 v2 v3 D) (hB : B ≤ w.heap.size) (hz : D.Sz) :
    Calls Try.prog 22 #[.agg #[v0, v1, v2, v3]] w fun e w' => ∃ b, e = .returned (.bool b) ∧ (b = true ↔ D.V) ∧ Below w.heap.size w w' := by
  rw [V_iff]
  have hmf : ∀ (fn : Fn) (first cap : Array Value) (w : World), (Instr.makeFunc fn first cap).run Try.prog w = .ok (.func fn first cap) w := fun _ _ _ _ => rfl
  have H : Hid (∀ w', Below w.heap.size w w' → PAt B w' v0 v1 v2 v3 D) := fun w' hb => h.kept hb hB
  clear h
  go_enter Try.func22, Try.ntmps22
  go_wp2
  go_loopw [15] (fun i wr => ∃ k : Nat, k ≤ 4 ∧ i = .int .i64 k ∧ Hid (Below (w.heap.size + 2) ((w.alloc (.cells #[v0, v1, v2, v3] 39)).alloc (.cells #[.func (.func 53) #[.agg #[v0, v1, v2, v3]] #[], .func (.func 54) #[.agg #[v0, v1, v2, v3]] #[], .func (.func 55) #[.agg #[v0, v1, v2, v3]] #[], .func (.func 56) #[.agg #[v0, v1, v2, v3]] #[]] 93)) wr) ∧ Hid ((1 ≤ k → D.Va) ∧ (2 ≤ k → D.Vb) ∧ (3 ≤ k → D.Vc) ∧ (4 ≤ k → D.Vd))) (fun i _ => 4 - (intOf i).toNat)
  case atStart => exact ⟨0, by omega, rfl, Below.refl _ _, fun h => by omega, fun h => by omega, fun h => by omega, fun h => by omega⟩
  case round =>
    obtain ⟨k, hk4, rfl, hbel, hyes⟩ := hrel
    have hsz : w.heap.size + 2 ≤ wr.heap.size := by have := hbel.out.size; simp at this; omega
    have hk : Hid (Below w.heap.size w wr) := (((Below.refl _ _).alloc (Nat.le_refl _) _).alloc (by simp) _).trans (hbel.out.mono (by omega))
    rcases (show k = 0 ∨ k = 1 ∨ k = 2 ∨ k = 3 ∨ k = 4 by omega) with rfl | rfl | rfl | rfl | rfl
    · have c : wr.cell? ⟨w.heap.size + 1, 0, none⟩ = some (.func (.func 53) #[.agg #[v0, v1, v2, v3]] #[]) := (hbel.out.cell (p := ⟨w.heap.size + 1, 0, none⟩) (by show w.heap.size + 1 < _; omega)).trans (by simp)
      go_wp2_with fail
      refine (stuffsI_any B v0 v1 v2 v3 D.ns D.fs _ (H.out _ hk.out).s (by omega) (fun i hi => ⟨hz.s i hi, trivial⟩)).mono ?_
      rintro e u ⟨b, rfl, hi, hb⟩
      have HI : Hid _ := hi
      clear hi
      cases b
      · go_wp2_with fail
        go_ret
        exact ⟨false, rfl, ⟨(fun h => by cases h), fun h => HI.out.2 h.1⟩, hk.out.trans (hb.mono (by omega))⟩
      · go_wp2_with fail
        go_roundw
        case rel =>
          have hX : D.Va := by have := HI.out; simpa [PD.Va] using this
          exact ⟨0 + 1, by omega, by go_num, hbel.out.trans (hb.mono (by omega)), fun _ => hX, fun h => by omega, fun h => by omega, fun h => by omega⟩
        case measure => simp [intOf]
    · have c : wr.cell? ⟨w.heap.size + 1, 1, none⟩ = some (.func (.func 54) #[.agg #[v0, v1, v2, v3]] #[]) := (hbel.out.cell (p := ⟨w.heap.size + 1, 1, none⟩) (by show w.heap.size + 1 < _; omega)).trans (by simp)
      go_wp2_with fail
      refine (foesI_any B v0 v1 v2 v3 D.nf D.ff D.ns D.fs _ (H.out _ hk.out).f (by omega) (H.out _ hk.out).s (fun i hi => ⟨trivial, trivial⟩)).mono ?_
      rintro e u ⟨b, rfl, hi, hb⟩
      have HI : Hid _ := hi
      clear hi
      cases b
      · go_wp2_with fail
        go_ret
        exact ⟨false, rfl, ⟨(fun h => by cases h), fun h => HI.out.2 h.2.1⟩, hk.out.trans (hb.mono (by omega))⟩
      · go_wp2_with fail
        go_roundw
        case rel =>
          have hX : D.Vb := by have := HI.out; simpa [PD.Vb] using this
          exact ⟨1 + 1, by omega, by go_num, hbel.out.trans (hb.mono (by omega)), fun _ => hyes.out.1 (by omega), fun _ => hX, fun h => by omega, fun h => by omega⟩
        case measure => simp [intOf]
    · have c : wr.cell? ⟨w.heap.size + 1, 2, none⟩ = some (.func (.func 55) #[.agg #[v0, v1, v2, v3]] #[]) := (hbel.out.cell (p := ⟨w.heap.size + 1, 2, none⟩) (by show w.heap.size + 1 < _; omega)).trans (by simp)
      go_wp2_with fail
      refine (placesI_any B v0 v1 v2 v3 D.np D.fp _ (H.out _ hk.out).p (by omega) hz.p).mono ?_
      rintro e u ⟨b, rfl, hi, hb⟩
      have HI : Hid _ := hi
      clear hi
      cases b
      · go_wp2_with fail
        go_ret
        exact ⟨false, rfl, ⟨(fun h => by cases h), fun h => HI.out.2 h.2.2.1⟩, hk.out.trans (hb.mono (by omega))⟩
      · go_wp2_with fail
        go_roundw
        case rel =>
          have hX : D.Vc := by have := HI.out; simpa [PD.Vc] using this
          exact ⟨2 + 1, by omega, by go_num, hbel.out.trans (hb.mono (by omega)), fun _ => hyes.out.1 (by omega), fun _ => hyes.out.2.1 (by omega), fun _ => hX, fun h => by omega⟩
        case measure => simp [intOf]
    · have c : wr.cell? ⟨w.heap.size + 1, 3, none⟩ = some (.func (.func 56) #[.agg #[v0, v1, v2, v3]] #[]) := (hbel.out.cell (p := ⟨w.heap.size + 1, 3, none⟩) (by show w.heap.size + 1 < _; omega)).trans (by simp)
      go_wp2_with fail
      refine (valvesI_any B v0 v1 v2 v3 D.nv D.fv D.np D.fp _ (H.out _ hk.out).v (by omega) (H.out _ hk.out).p hz.v).mono ?_
      rintro e u ⟨b, rfl, hi, hb⟩
      have HI : Hid _ := hi
      clear hi
      cases b
      · go_wp2_with fail
        go_ret
        exact ⟨false, rfl, ⟨(fun h => by cases h), fun h => HI.out.2 h.2.2.2⟩, hk.out.trans (hb.mono (by omega))⟩
      · go_wp2_with fail
        go_roundw
        case rel =>
          have hX : D.Vd := by have := HI.out; simpa [PD.Vd] using this
          exact ⟨3 + 1, by omega, by go_num, hbel.out.trans (hb.mono (by omega)), fun _ => hyes.out.1 (by omega), fun _ => hyes.out.2.1 (by omega), fun _ => hyes.out.2.2.1 (by omega), fun _ => hX⟩
        case measure => simp [intOf]
    · go_wp2_with fail
      go_ret
      exact ⟨true, rfl, ⟨fun _ => ⟨hyes.out.1 (by omega), hyes.out.2.1 (by omega), hyes.out.2.2.1 (by omega), hyes.out.2.2.2 (by omega)⟩, fun _ => rfl⟩, hk.out⟩

end Go.Proofs.Ytciembgenlcogac
