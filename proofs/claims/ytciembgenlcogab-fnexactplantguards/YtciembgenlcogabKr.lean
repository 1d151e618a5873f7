/-
  A route in memory, and whether two are the same, as the laws ask it.
-/
import Derived.Test.YtciembgenlcogabMk
import Derived.Test.YtciembgenlcogabHc
import Derived.Test.YtciembgenlcogabUt
import Derived.Deep.Cut
namespace Go.Proofs.Ytciembgenlcogab
open Go.RowKit Go.Sort

/-- A route in memory: m places and k valves. -/
structure RAt (B : Nat) (w : World) (vp vv : Value) (m : Nat) (P : Nat → ByteArray) (k : Nat) (Q : Nat → ByteArray) : Prop where
  p : Lst B w vp m 1 (cS P)
  v : Lst B w vv k 1 (cS Q)

theorem RAt.kept {B B' : Nat} {w w' : World} {vp vv : Value} {m : Nat} {P : Nat → ByteArray} {k : Nat} {Q : Nat → ByteArray} (h : RAt B w vp vv m P k Q) (hb : Below B' w w') (hB : B ≤ B') : RAt B w' vp vv m P k Q := ⟨h.p.kept hb hB, h.v.kept hb hB⟩

set_option maxRecDepth 100000 in
set_option maxHeartbeats 2000000 in
theorem eqRoute_any (B B' : Nat) (a0 a1 b0 b1 : Value) (m k : Nat) (P Q : Nat → ByteArray) (w : World) (ha : RAt B w a0 a1 m P k Q) (hb : RAt B' w b0 b1 m P k Q) (hB : B ≤ w.heap.size) (hB' : B' ≤ w.heap.size) :
    Calls Try.prog 12 #[.agg #[a0, a1], .agg #[b0, b1]] w fun e w' => e = .returned (.bool true) ∧ Below w.heap.size w w' := by
  have H : Hid (∀ w', Below w.heap.size w w' → RAt B w' a0 a1 m P k Q ∧ RAt B' w' b0 b1 m P k Q) := fun w' h => ⟨ha.kept h hB, hb.kept h hB'⟩
  clear ha hb
  obtain ⟨W, hW⟩ : ∃ W, W = (w.alloc (.cells #[a0, a1] 39)).alloc (.cells #[b0, b1] 39) := ⟨_, rfl⟩
  have kW : Hid (Below w.heap.size w W) := by rw [hW]; exact ((Below.refl _ _).alloc (Nat.le_refl _) _).alloc (by simp) _
  have sW : W.heap.size = w.heap.size + 1 + 1 := by rw [hW]; simp
  have c0 : W.cell? ⟨w.heap.size, 1, none⟩ = some a1 := by rw [hW]; simp
  have c1 : W.cell? ⟨w.heap.size + 1, 1, none⟩ = some b1 := by rw [hW]; simp
  have c2 : W.cell? ⟨w.heap.size, 0, none⟩ = some a0 := by rw [hW]; simp
  have c3 : W.cell? ⟨w.heap.size + 1, 0, none⟩ = some b0 := by rw [hW]; simp
  go_enter Try.func12, Try.ntmps12
  go_upto_region 1 with fail
  rw [← hW]
  clear hW
  go_wp2_with fail
  refine (eqS_lst B B' a0 b0 m P _ (H.out _ kW.out).1.p (H.out _ kW.out).2.p (by omega) (by omega)).mono ?_; rintro e w1 ⟨rfl, hb1⟩
  have d0 := (hb1.cell (p := ⟨w.heap.size, 1, none⟩) (by show w.heap.size < _; omega)).trans c0
  have d1 := (hb1.cell (p := ⟨w.heap.size + 1, 1, none⟩) (by show w.heap.size + 1 < _; omega)).trans c1
  have k1 : Hid (Below w.heap.size w w1) := kW.out.trans (hb1.mono (by omega))
  have s1 := k1.out.size
  go_wp2_with fail
  refine (eqS_lst B B' a1 b1 k Q _ (H.out _ k1.out).1.v (H.out _ k1.out).2.v (by omega) (by omega)).mono ?_; rintro e w2 ⟨rfl, hb2⟩
  go_wp2_with fail
  go_ret
  exact ⟨rfl, k1.out.trans (hb2.mono s1)⟩

end Go.Proofs.Ytciembgenlcogab
