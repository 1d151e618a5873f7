/-
  The law FnExactRecPrint, walked: whatever the recipe, the call returns true, and nothing that was there before has turned.
-/
import Derived.Test.YthonjmefjmbogacDoorXfe
import Derived.Test.YthonjmefjmbogacDoorXws
import Derived.Test.YthonjmefjmbogacDoorXwt
import Derived.Test.YthonjmefjmbogacDoorXwe
namespace Go.Proofs.YthonjmefjmbogacDoor
open Go.RowKit

set_option maxRecDepth 100000 in
set_option maxHeartbeats 4000000 in
theorem lawf_any (S : Nat → Prop) (r : List DRecPhase) (v : Value)  (w : World) (h : AtL S w r v) (hS : ∀ b, S b → b < w.heap.size) (hT : Tb w) :
    Calls Tryd.prog 3 #[v] w fun e w' => e = .returned (.bool true) ∧ Below w.heap.size w w' := by
  have H : Hid (∀ w', Below w.heap.size w w' → AtL S w' r v ∧ ∀ b, S b → b < w'.heap.size) := fun w' hb => ⟨h.same (Same.of_below hb hS), fun b hb' => Nat.lt_of_lt_of_le (hS b hb') hb.size⟩
  have TW : Hid (∀ u, Below w.heap.size w u → Tb u) := fun u hu => hT.kept hu
  clear h hS hT
  have B0 : Hid (Below w.heap.size w w) := Below.refl _ _
  go_enter Tryd.func3, Tryd.ntmps3
  go_wp2_with fail
  refine (szRecPhaseS_any S r v 1048576 _ (H.out _ B0.out).1 (H.out _ B0.out).2 (by omega) (by omega)).mono ?_; rintro e w1 ⟨y, rfl, hy, hb1⟩
  have B1 : Hid (Below w.heap.size w w1) := hb1
  have HY : Hid _ := hy
  clear hy hb1
  by_cases hneg : y < 0
  · go_wp2_with fail
    go_ret
    exact ⟨rfl, B1.out⟩
  have HM : Hid (totL r ≤ 1048576) := by have := HY.out; show _ ≤ _; omega
  go_wp2_with fail
  refine (toRecPhaseS_any S r v _ (H.out _ B1.out).1 (H.out _ B1.out).2 HM.out).mono ?_; rintro e w2 ⟨r1, rfl, a1, hb2⟩
  have A1 : Hid (AtL (fun b => w1.heap.size ≤ b ∧ b < w2.heap.size) w2 r r1) := a1
  have s1 := B1.out.size
  have B2 : Hid (Below w.heap.size w w2) := B1.out.trans (hb2.mono s1)
  clear a1 hb2
  go_wp2_with fail
  refine (printX_any _ r r1 w2 A1.out (fun b hb => hb.2)).mono ?_; rintro e w3 ⟨rfl, hb3⟩
  have s2 := B2.out.size
  have B3 : Hid (Below w.heap.size w w3) := B2.out.trans (hb3.mono s2)
  obtain ⟨R, hR⟩ : ∃ R : ByteArray, R = tx (recT r) := ⟨_, rfl⟩
  rw [← hR]
  have HR : Hid (R = tx (recT r)) := hR
  clear hb3 hR A1
  go_wp2_with fail
  refine (toRecPhaseS_any S r v _ (H.out _ B3.out).1 (H.out _ B3.out).2 HM.out).mono ?_; rintro e w4 ⟨r2, rfl, a2, hb4⟩
  have A2 : Hid (AtL (fun b => w3.heap.size ≤ b ∧ b < w4.heap.size) w4 r r2) := a2
  have s3 := B3.out.size
  have B4 : Hid (Below w.heap.size w w4) := B3.out.trans (hb4.mono s3)
  clear a2 hb4
  go_wp2_with fail
  refine (printI_any _ r r2 w4 A2.out (fun b hb => hb.2) HM.out (TW.out _ B4.out)).mono ?_; rintro e w5 ⟨rfl, hb5⟩
  rw [← HR.out]
  have s4 := B4.out.size
  have B5 : Hid (Below w.heap.size w w5) := B4.out.trans (hb5.mono s4)
  have s5 := hb5.size
  have A2b : Hid (AtL (fun b => w3.heap.size ≤ b ∧ b < w4.heap.size) w5 r r2) := A2.out.same (Same.of_below hb5 (fun b hb => hb.2))
  clear hb5
  go_wp2_with fail
  refine (toRecPhaseS_any S r v _ (H.out _ B5.out).1 (H.out _ B5.out).2 HM.out).mono ?_; rintro e w6 ⟨r3, rfl, a3, hb6⟩
  have A3 : Hid (AtL (fun b => w5.heap.size ≤ b ∧ b < w6.heap.size) w6 r r3) := a3
  have A2c : Hid (AtL (fun b => w3.heap.size ≤ b ∧ b < w4.heap.size) w6 r r2) := A2b.out.same (Same.of_below hb6 (fun b hb => by omega))
  have s6 := hb6.size
  have B6 : Hid (Below w.heap.size w w6) := B5.out.trans (hb6.mono (by omega))
  clear a3 hb6
  go_wp2_with fail
  refine (eqRecPhaseS_any _ _ r r2 r3 w6 A2c.out A3.out (fun b hb => by omega) (fun b hb => hb.2)).mono ?_; rintro e w7 ⟨rfl, hb7⟩
  have B7 : Hid (Below w.heap.size w w7) := B6.out.trans (hb7.mono (by omega))
  clear hb7
  go_wp2_with fail
  go_ret
  exact ⟨rfl, B7.out⟩


end Go.Proofs.YthonjmefjmbogacDoor
