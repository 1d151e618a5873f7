/-
  The law FnExactRecPhaseOk, walked: whatever the phase, the call returns true, and nothing that was there before has turned.
-/
import Derived.Test.YtjogdidccgnhfaaXn
import Derived.Test.YtjogdidccgnhfaaXrs
import Derived.Test.YtjogdidccgnhfaaXrt
namespace Go.Proofs.Ytjogdidccgnhfaa
open Go.RowKit

set_option maxRecDepth 100000 in
set_option maxHeartbeats 4000000 in
theorem lawp_any (PI : ∀ (nm a b th el : ByteArray) (kd n wi : Int) (w : World), nm.size ≤ maxLen → a.size ≤ maxLen → b.size ≤ maxLen → th.size ≤ maxLen → el.size ≤ maxLen → OkN kd → OkN n → OkN wi → Calls Try.prog 7 #[.agg #[.string nm, .int .i64 kd, .string a, .string b, .int .i64 n, .int .i64 wi, .string th, .string el]] w fun e w' => e = .returned (.bool (phaseB (nm, kd, a, b, n, wi, th, el))) ∧ Below w.heap.size w w') (S : Nat → Prop) (nm a b th el : ByteArray) (kd n wi : Int) (w : World) (hat : Lay.At S w ((nm, kd, a, b, n, wi, th, el) : DRecPhase) (cs [.string nm, .int .i64 kd, .string a, .string b, .int .i64 n, .int .i64 wi, .string th, .string el])) (hS : ∀ b, S b → b < w.heap.size) :
    Calls Try.prog 3 #[.agg #[.string nm, .int .i64 kd, .string a, .string b, .int .i64 n, .int .i64 wi, .string th, .string el]] w fun e w' => e = .returned (.bool true) ∧ Below w.heap.size w w' := by
  have HAT : Hid (Lay.At S w ((nm, kd, a, b, n, wi, th, el) : DRecPhase) (cs [.string nm, .int .i64 kd, .string a, .string b, .int .i64 n, .int .i64 wi, .string th, .string el])) := hat
  obtain ⟨⟨_, z0⟩, ⟨_, p1, r1⟩, ⟨_, z2⟩, ⟨_, z3⟩, ⟨_, p4, r4⟩, ⟨_, p5, r5⟩, ⟨_, z6⟩, ⟨_, z7⟩⟩ := at_DRecPhase.1 hat
  have PP : Hid (∀ w, Calls Try.prog 7 #[.agg #[.string nm, .int .i64 kd, .string a, .string b, .int .i64 n, .int .i64 wi, .string th, .string el]] w fun e w' => e = .returned (.bool (phaseB (nm, kd, a, b, n, wi, th, el))) ∧ Below w.heap.size w w') := fun w => PI nm a b th el kd n wi w z0 z2 z3 z6 z7 ⟨p1, r1⟩ ⟨p4, r4⟩ ⟨p5, r5⟩
  have MM : Hid (∀ w, Calls Try.prog 5 #[.agg #[.string nm, .int .i64 kd, .string a, .string b, .int .i64 n, .int .i64 wi, .string th, .string el]] w fun e w' => e = .returned (.bool (phaseB (nm, kd, a, b, n, wi, th, el))) ∧ Below w.heap.size w w') := fun w => phaseX_any nm a b th el kd n wi w z0 z2 z3 z6 z7
  clear hat PI z0 z2 z3 z6 z7 p1 r1 p4 r4 p5 r5
  have k0 : Hid (Below (w.heap.size + 1) (w.alloc (.cells #[.string nm, .int .i64 kd, .string a, .string b, .int .i64 n, .int .i64 wi, .string th, .string el] 23)) (w.alloc (.cells #[.string nm, .int .i64 kd, .string a, .string b, .int .i64 n, .int .i64 wi, .string th, .string el] 23))) := Below.refl _ _
  obtain ⟨R, hR⟩ : ∃ R, R = phaseB (nm, kd, a, b, n, wi, th, el) := ⟨_, rfl⟩
  rw [← hR] at PP MM
  clear hR
  go_enter Try.func3, Try.ntmps3
  go_wp2_with fail
  refine (szRecPhase_any S (nm, kd, a, b, n, wi, th, el) (cs [.string nm, .int .i64 kd, .string a, .string b, .int .i64 n, .int .i64 wi, .string th, .string el]) 1048576 _ (Lay.same HAT.out (Same.of_below (below_end k0.out) hS)) (fun q hq => Nat.lt_of_lt_of_le (hS q hq) (below_end k0.out).size) (by omega) (by omega)).mono ?_; rintro e w1 ⟨y, rfl, hy, hb1⟩
  have k1 : Hid (Below (w.heap.size + 1) (w.alloc (.cells #[.string nm, .int .i64 kd, .string a, .string b, .int .i64 n, .int .i64 wi, .string th, .string el] 23)) w1) := below_of k0.out hb1
  have HY : Hid _ := hy
  clear hy hb1
  by_cases hneg : y < 0
  · go_wp2_with fail
    go_ret
    exact ⟨rfl, below_end k1.out⟩
  have HM : Hid (Lay.tot ((nm, kd, a, b, n, wi, th, el) : DRecPhase) ≤ 1048576) := by have := HY.out; show _ ≤ _; omega
  have x1_0 := box_at _ _ k1.out 0 (.string nm) rfl
  have x1_1 := box_at _ _ k1.out 1 (.int .i64 kd) rfl
  have x1_2 := box_at _ _ k1.out 2 (.string a) rfl
  have x1_3 := box_at _ _ k1.out 3 (.string b) rfl
  have x1_4 := box_at _ _ k1.out 4 (.int .i64 n) rfl
  have x1_5 := box_at _ _ k1.out 5 (.int .i64 wi) rfl
  have x1_6 := box_at _ _ k1.out 6 (.string th) rfl
  have x1_7 := box_at _ _ k1.out 7 (.string el) rfl
  go_wp2_with fail
  refine (toRecPhase_any S (nm, kd, a, b, n, wi, th, el) (cs [.string nm, .int .i64 kd, .string a, .string b, .int .i64 n, .int .i64 wi, .string th, .string el]) _ (Lay.same HAT.out (Same.of_below (below_end k1.out) hS)) (fun q hq => Nat.lt_of_lt_of_le (hS q hq) (below_end k1.out).size) HM.out).mono ?_; rintro e w2 ⟨g, rfl, G, hb2⟩
  obtain ⟨⟨g0, _⟩, ⟨g1, _, _⟩, ⟨g2, _⟩, ⟨g3, _⟩, ⟨g4, _, _⟩, ⟨g5, _, _⟩, ⟨g6, _⟩, ⟨g7, _⟩⟩ := at_DRecPhase.1 G
  rw [g0, g1, g2, g3, g4, g5, g6, g7]
  have k2 : Hid (Below (w.heap.size + 1) (w.alloc (.cells #[.string nm, .int .i64 kd, .string a, .string b, .int .i64 n, .int .i64 wi, .string th, .string el] 23)) w2) := below_of k1.out hb2
  clear G g0 g1 g2 g3 g4 g5 g6 g7 hb2 x1_0 x1_1 x1_2 x1_3 x1_4 x1_5 x1_6 x1_7
  go_wp2_with fail
  refine (MM.out w2).mono ?_; rintro e w3 ⟨rfl, hb3⟩
  have k3 : Hid (Below (w.heap.size + 1) (w.alloc (.cells #[.string nm, .int .i64 kd, .string a, .string b, .int .i64 n, .int .i64 wi, .string th, .string el] 23)) w3) := below_of k2.out hb3
  clear hb3
  have x3_0 := box_at _ _ k3.out 0 (.string nm) rfl
  have x3_1 := box_at _ _ k3.out 1 (.int .i64 kd) rfl
  have x3_2 := box_at _ _ k3.out 2 (.string a) rfl
  have x3_3 := box_at _ _ k3.out 3 (.string b) rfl
  have x3_4 := box_at _ _ k3.out 4 (.int .i64 n) rfl
  have x3_5 := box_at _ _ k3.out 5 (.int .i64 wi) rfl
  have x3_6 := box_at _ _ k3.out 6 (.string th) rfl
  have x3_7 := box_at _ _ k3.out 7 (.string el) rfl
  go_wp2_with fail
  refine (toRecPhase_any S (nm, kd, a, b, n, wi, th, el) (cs [.string nm, .int .i64 kd, .string a, .string b, .int .i64 n, .int .i64 wi, .string th, .string el]) _ (Lay.same HAT.out (Same.of_below (below_end k3.out) hS)) (fun q hq => Nat.lt_of_lt_of_le (hS q hq) (below_end k3.out).size) HM.out).mono ?_; rintro e w4 ⟨g, rfl, G, hb4⟩
  obtain ⟨⟨g0, _⟩, ⟨g1, _, _⟩, ⟨g2, _⟩, ⟨g3, _⟩, ⟨g4, _, _⟩, ⟨g5, _, _⟩, ⟨g6, _⟩, ⟨g7, _⟩⟩ := at_DRecPhase.1 G
  rw [g0, g1, g2, g3, g4, g5, g6, g7]
  have k4 : Hid (Below (w.heap.size + 1) (w.alloc (.cells #[.string nm, .int .i64 kd, .string a, .string b, .int .i64 n, .int .i64 wi, .string th, .string el] 23)) w4) := below_of k3.out hb4
  clear G g0 g1 g2 g3 g4 g5 g6 g7 hb4 x3_0 x3_1 x3_2 x3_3 x3_4 x3_5 x3_6 x3_7
  go_wp2_with fail
  refine (PP.out w4).mono ?_; rintro e w5 ⟨rfl, hb5⟩
  have k5 : Hid (Below (w.heap.size + 1) (w.alloc (.cells #[.string nm, .int .i64 kd, .string a, .string b, .int .i64 n, .int .i64 wi, .string th, .string el] 23)) w5) := below_of k4.out hb5
  clear hb5
  go_wp2_with fail
  go_ret
  exact ⟨rfl, below_end k5.out⟩

end Go.Proofs.Ytjogdidccgnhfaa
