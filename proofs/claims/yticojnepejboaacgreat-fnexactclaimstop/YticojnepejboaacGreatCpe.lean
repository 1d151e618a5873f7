/-
  Contracts of the program's tests of a want against a book: whether it is known, whether two shut each other out, whether a use fits its spot.
-/
import Derived.Test.YticojnepejboaacGreatCpd
import Derived.Test.YticojnepejboaacGreatCi
namespace Go.Proofs.YticojnepejboaacGreat
open Go.RowKit

/-- Does one of two parts open what the other keeps shut? -/
def shutB (ao az bo bz : List ByteArray) : Bool := shareB ao bz || shareB bo az
/-- May what is in a place be left so? -/
def leftB (role : Int) (may ss : List ByteArray) : Bool := if role = 1 then allC' may ss else if role = 2 then allC' ss may else allC' may ss && allC' ss may
/-- Does a use fit its spot, as the program asks? -/
def fitI (least most : Int) (may : List ByteArray) (kind : Int) (ss : List ByteArray) (role amount : Int) : Bool :=
  !decide (most < least + amount) && (if kind = 1 then leftB role may ss else if kind = 2 then decide (most = 0) else true)

set_option maxRecDepth 100000 in
set_option maxHeartbeats 8000000 in
theorem shutOut_any (S : Nat → Prop) (a0 a1 a2 a3 a4 a5 a6 b0 b1 b2 b3 b4 b5 b6 : Value) (ao az bo bz : List ByteArray) (w : World) (h4 : AtL S w ao a4) (h5 : AtL S w az a5) (g4 : AtL S w bo b4) (g5 : AtL S w bz b5) (hS : ∀ b, S b → b < w.heap.size) :
    Calls Tryz.prog 107 #[.agg #[a0, a1, a2, a3, a4, a5, a6], .agg #[b0, b1, b2, b3, b4, b5, b6]] w fun e w' => e = .returned (.bool (shutB ao az bo bz)) ∧ Below w.heap.size w w' := by
  have D0 : Hid (Below (w.heap.size + 2) ((w.alloc (.cells #[a0, a1, a2, a3, a4, a5, a6] 50)).alloc (.cells #[b0, b1, b2, b3, b4, b5, b6] 50)) ((w.alloc (.cells #[a0, a1, a2, a3, a4, a5, a6] 50)).alloc (.cells #[b0, b1, b2, b3, b4, b5, b6] 50))) := Below.refl _ _
  have B0 : Hid (Below w.heap.size w ((w.alloc (.cells #[a0, a1, a2, a3, a4, a5, a6] 50)).alloc (.cells #[b0, b1, b2, b3, b4, b5, b6] 50))) := below_end (below2 D0.out)
  have S0 : ∀ b, S b → b < ((w.alloc (.cells #[a0, a1, a2, a3, a4, a5, a6] 50)).alloc (.cells #[b0, b1, b2, b3, b4, b5, b6] 50)).heap.size := fun b hb => by have := hS b hb; simp; omega
  have H4 : Hid (∀ w', Below w.heap.size w w' → AtL S w' ao a4) := fun w' h => h4.same (Same.of_below h hS)
  have H5 : Hid (∀ w', Below w.heap.size w w' → AtL S w' az a5) := fun w' h => h5.same (Same.of_below h hS)
  have G4 : Hid (∀ w', Below w.heap.size w w' → AtL S w' bo b4) := fun w' h => g4.same (Same.of_below h hS)
  have G5 : Hid (∀ w', Below w.heap.size w w' → AtL S w' bz b5) := fun w' h => g5.same (Same.of_below h hS)
  clear h4 h5 g4 g5
  go_enter Tryz.func107, Tryz.ntmps107
  cases h0 : shareB ao bz
  · go_wp2_with fail
    refine (share_any S _ _ ao bz _ (H4.out _ B0.out) (G5.out _ B0.out) S0).mono ?_
    rintro e w1 ⟨rfl, hb⟩
    rw [h0]
    have D1 : Hid (Below (w.heap.size + 2) ((w.alloc (.cells #[a0, a1, a2, a3, a4, a5, a6] 50)).alloc (.cells #[b0, b1, b2, b3, b4, b5, b6] 50)) w1) := D0.out.trans (hb.mono (by simp))
    have B1 : Hid (Below w.heap.size w w1) := below_end (below2 D1.out)
    have S1 : ∀ b, S b → b < w1.heap.size := fun b hb => by have := hS b hb; have := B1.out.size; omega
    have y5 := box_at _ _ (below2 D1.out) 5 a5 rfl
    have y4 := box2_at _ _ _ D1.out 4 b4 rfl
    clear hb
    go_wp2_with fail
    refine (share_any S _ _ bo az _ (G4.out _ B1.out) (H5.out _ B1.out) S1).mono ?_
    rintro e w2 ⟨rfl, hb2⟩
    go_wp2_with fail
    go_ret
    exact ⟨by rw [show shutB ao az bo bz = shareB bo az by unfold shutB; rw [h0]; rfl]; rfl, B1.out.trans (hb2.mono B1.out.size)⟩
  · go_wp2_with fail
    refine (share_any S _ _ ao bz _ (H4.out _ B0.out) (G5.out _ B0.out) S0).mono ?_
    rintro e w1 ⟨rfl, hb⟩
    rw [h0]
    have D1 : Hid (Below (w.heap.size + 2) ((w.alloc (.cells #[a0, a1, a2, a3, a4, a5, a6] 50)).alloc (.cells #[b0, b1, b2, b3, b4, b5, b6] 50)) w1) := D0.out.trans (hb.mono (by simp))
    have B1 : Hid (Below w.heap.size w w1) := below_end (below2 D1.out)
    have S1 : ∀ b, S b → b < w1.heap.size := fun b hb => by have := hS b hb; have := B1.out.size; omega
    have y5 := box_at _ _ (below2 D1.out) 5 a5 rfl
    have y4 := box2_at _ _ _ D1.out 4 b4 rfl
    clear hb
    go_wp2_with fail
    go_ret
    exact ⟨by rw [show shutB ao az bo bz = true by unfold shutB; rw [h0]; rfl]; rfl, B1.out⟩

set_option maxRecDepth 100000 in
set_option maxHeartbeats 8000000 in
theorem left_any (S : Nat → Prop) (vs vm : Value) (role : Int) (may ss : List ByteArray) (w : World) (hm : AtL S w may vm) (hs : AtL S w ss vs) (hS : ∀ b, S b → b < w.heap.size) :
    Calls Tryz.prog 135 #[.agg #[vs], .int .i64 role, vm] w fun e w' => e = .returned (.bool (leftB role may ss)) ∧ Below w.heap.size w w' := by
  obtain ⟨om, km, em, _⟩ := id hm
  obtain ⟨os, ks, es, _⟩ := id hs
  have D0 : Hid (Below (w.heap.size + 1) (w.alloc (.cells #[vs] 160)) (w.alloc (.cells #[vs] 160))) := Below.refl _ _
  have B0 : Hid (Below w.heap.size w (w.alloc (.cells #[vs] 160))) := below_end D0.out
  have S0 : ∀ b, S b → b < (w.alloc (.cells #[vs] 160)).heap.size := fun b hb => by have := hS b hb; simp; omega
  have HM : Hid (∀ w', Below w.heap.size w w' → AtL S w' may vm) := fun w' h => hm.same (Same.of_below h hS)
  have HS : Hid (∀ w', Below w.heap.size w w' → AtL S w' ss vs) := fun w' h => hs.same (Same.of_below h hS)
  clear hm hs
  subst em es
  go_enter Tryz.func135, Tryz.ntmps135
  by_cases r1 : role = 1
  · subst r1
    go_wp2_with fail
    refine (all_any S _ _ may ss _ (HM.out _ B0.out) (HS.out _ B0.out) S0).mono ?_
    rintro e w1 ⟨rfl, hb⟩
    go_wp2_with fail
    go_ret
    exact ⟨rfl, B0.out.trans (hb.mono B0.out.size)⟩
  · have g1 : (role == 1) = false := by simpa using r1
    by_cases r2 : role = 2
    · subst r2
      go_wp2_with fail
      refine (all_any S _ _ ss may _ (HS.out _ B0.out) (HM.out _ B0.out) S0).mono ?_
      rintro e w1 ⟨rfl, hb⟩
      go_wp2_with fail
      go_ret
      exact ⟨rfl, B0.out.trans (hb.mono B0.out.size)⟩
    · have g2 : (role == 2) = false := by simpa using r2
      have hl : leftB role may ss = (allC' may ss && allC' ss may) := by unfold leftB; rw [if_neg r1, if_neg r2]
      rw [hl]
      clear r1 r2 hl
      cases h0 : allC' may ss
      · go_wp2_with fail
        refine (all_any S _ _ may ss _ (HM.out _ B0.out) (HS.out _ B0.out) S0).mono ?_
        rintro e w1 ⟨rfl, hb⟩
        rw [h0]
        have D1 : Hid (Below (w.heap.size + 1) (w.alloc (.cells #[.slice os ss.length ks] 160)) w1) := D0.out.trans (hb.mono (by simp))
        have B1 : Hid (Below w.heap.size w w1) := below_end D1.out
        have S1 : ∀ b, S b → b < w1.heap.size := fun b hb => by have := hS b hb; have := B1.out.size; omega
        have y0 := box_at _ _ D1.out 0 (.slice os ss.length ks) rfl
        clear hb
        go_wp2_with fail
        go_ret
        exact ⟨rfl, B1.out⟩
      · go_wp2_with fail
        refine (all_any S _ _ may ss _ (HM.out _ B0.out) (HS.out _ B0.out) S0).mono ?_
        rintro e w1 ⟨rfl, hb⟩
        rw [h0]
        have D1 : Hid (Below (w.heap.size + 1) (w.alloc (.cells #[.slice os ss.length ks] 160)) w1) := D0.out.trans (hb.mono (by simp))
        have B1 : Hid (Below w.heap.size w w1) := below_end D1.out
        have S1 : ∀ b, S b → b < w1.heap.size := fun b hb => by have := hS b hb; have := B1.out.size; omega
        have y0 := box_at _ _ D1.out 0 (.slice os ss.length ks) rfl
        clear hb
        go_wp2_with fail
        refine (all_any S _ _ ss may _ (HS.out _ B1.out) (HM.out _ B1.out) S1).mono ?_
        rintro e w2 ⟨rfl, hb2⟩
        go_wp2_with fail
        go_ret
        exact ⟨rfl, B1.out.trans (hb2.mono B1.out.size)⟩

set_option maxRecDepth 100000 in
set_option maxHeartbeats 8000000 in
theorem fitI_any (S : Nat → Prop) (num kind role amount cap least most : Int) (o2 : Option Addr) (n2 k2 : Nat) (x3 x4 x5 y0 z0 vm : Value) (may ss : List ByteArray) (w : World) (hm : AtL S w may vm) (hs : AtL S w ss (.slice o2 n2 k2)) (hS : ∀ b, S b → b < w.heap.size) (hr : -9223372036854775808 ≤ least + amount ∧ least + amount ≤ 9223372036854775807) (hk : kind = 1 ∨ kind = 2 ∨ kind = 3) :
    Calls Tryz.prog 108 #[.agg #[.int .i64 num, .int .i64 kind, .slice o2 n2 k2, x3, x4, x5], .agg #[y0, .int .i64 role, .int .i64 amount], .agg #[z0, .int .i64 cap, .int .i64 least, .int .i64 most, vm]] w fun e w' => e = .returned (.bool (fitI least most may kind ss role amount)) ∧ Below w.heap.size w w' := by
  have D0 : Hid (Below (w.heap.size + 3) (((w.alloc (.cells #[.int .i64 num, .int .i64 kind, .slice o2 n2 k2, x3, x4, x5] 48)).alloc (.cells #[y0, .int .i64 role, .int .i64 amount] 106)).alloc (.cells #[z0, .int .i64 cap, .int .i64 least, .int .i64 most, vm] 81)) (((w.alloc (.cells #[.int .i64 num, .int .i64 kind, .slice o2 n2 k2, x3, x4, x5] 48)).alloc (.cells #[y0, .int .i64 role, .int .i64 amount] 106)).alloc (.cells #[z0, .int .i64 cap, .int .i64 least, .int .i64 most, vm] 81))) := Below.refl _ _
  have B0 : Hid (Below w.heap.size w (((w.alloc (.cells #[.int .i64 num, .int .i64 kind, .slice o2 n2 k2, x3, x4, x5] 48)).alloc (.cells #[y0, .int .i64 role, .int .i64 amount] 106)).alloc (.cells #[z0, .int .i64 cap, .int .i64 least, .int .i64 most, vm] 81))) := below_end (below2 (below3 D0.out))
  have S0 : ∀ b, S b → b < (((w.alloc (.cells #[.int .i64 num, .int .i64 kind, .slice o2 n2 k2, x3, x4, x5] 48)).alloc (.cells #[y0, .int .i64 role, .int .i64 amount] 106)).alloc (.cells #[z0, .int .i64 cap, .int .i64 least, .int .i64 most, vm] 81)).heap.size := fun b hb => by have := hS b hb; simp; omega
  have HM : Hid (∀ w', Below w.heap.size w w' → AtL S w' may vm) := fun w' h => hm.same (Same.of_below h hS)
  have HS : Hid (∀ w', Below w.heap.size w w' → AtL S w' ss (.slice o2 n2 k2)) := fun w' h => hs.same (Same.of_below h hS)
  clear hm hs
  cases hf : decide (most < least + amount)
  · rcases hk with rfl | rfl | rfl
    · have ta0 : ∀ W, (Instr.typeAssert (.iface 160 (.agg #[.slice o2 n2 k2])) 157 160 true).run Tryz.prog W = .ok (.tuple #[.agg #[.slice o2 n2 k2], .bool true]) W := fun W => by kernel_rfl
      have e0 : clV 1 (.slice o2 n2 k2) = .iface 160 (.agg #[.slice o2 n2 k2]) := rfl
      have HC : Hid _ := claiming_any num 1 o2 n2 k2 x3 x4 x5 (((w.alloc (.cells #[.int .i64 num, .int .i64 1, .slice o2 n2 k2, x3, x4, x5] 48)).alloc (.cells #[y0, .int .i64 role, .int .i64 amount] 106)).alloc (.cells #[z0, .int .i64 cap, .int .i64 least, .int .i64 most, vm] 81))
      rw [e0] at HC
      clear e0
      go_enter Tryz.func108, Tryz.ntmps108
      go_wp2_with fail
      refine Calls.mono HC.out ?_
      rintro e w1 ⟨rfl, hb1⟩
      have D1 : Hid (Below (w.heap.size + 3) (((w.alloc (.cells #[.int .i64 num, .int .i64 1, .slice o2 n2 k2, x3, x4, x5] 48)).alloc (.cells #[y0, .int .i64 role, .int .i64 amount] 106)).alloc (.cells #[z0, .int .i64 cap, .int .i64 least, .int .i64 most, vm] 81)) w1) := D0.out.trans (hb1.mono (by simp))
      have B1 : Hid (Below w.heap.size w w1) := below_end (below2 (below3 D1.out))
      have hs1 := B1.out.size
      have hs3 : w.heap.size + 3 ≤ w1.heap.size := by have := D1.out.size; simpa using this
      have u1 := box2_at _ _ _ (below3 D1.out) 1 (.int .i64 role) rfl
      have s3 := box3_at _ _ _ _ D1.out 3 (.int .i64 most) rfl
      have s4 := box3_at _ _ _ _ D1.out 4 vm rfl
      have qu1 := fun o => cell_past u1 (by omega) o
      have qs3 := fun o => cell_past s3 (by omega) o
      have qs4 := fun o => cell_past s4 (by omega) o
      clear hb1
      have BA : Hid (Below w.heap.size w (w1.alloc (.cells #[.slice o2 n2 k2] 160))) := B1.out.alloc hs1 _
      have SA : ∀ b, S b → b < (w1.alloc (.cells #[.slice o2 n2 k2] 160)).heap.size := fun b hb => by have := hS b hb; simp; omega
      go_wp2_with fail
      refine (left_any S _ _ role may ss _ (HM.out _ BA.out) (HS.out _ BA.out) SA).mono ?_
      rintro e w2 ⟨rfl, hb2⟩
      go_wp2_with fail
      go_ret
      exact ⟨by rw [show fitI least most may 1 ss role amount = leftB role may ss by unfold fitI; rw [hf]; rfl]; rfl, BA.out.trans (hb2.mono BA.out.size)⟩
    · cases hz : (most == 0)
      · have ta0 : ∀ W, (Instr.typeAssert (.iface 163 (.agg #[])) 157 160 true).run Tryz.prog W = .ok (.tuple #[.agg #[.slice none 0 0], .bool false]) W := fun W => by kernel_rfl
        have ta1 : ∀ W, (Instr.typeAssert (.iface 163 (.agg #[])) 157 163 true).run Tryz.prog W = .ok (.tuple #[.agg #[], .bool true]) W := fun W => by kernel_rfl
        have e0 : clV 2 (.slice o2 n2 k2) = .iface 163 (.agg #[]) := rfl
        have HC : Hid _ := claiming_any num 2 o2 n2 k2 x3 x4 x5 (((w.alloc (.cells #[.int .i64 num, .int .i64 2, .slice o2 n2 k2, x3, x4, x5] 48)).alloc (.cells #[y0, .int .i64 role, .int .i64 amount] 106)).alloc (.cells #[z0, .int .i64 cap, .int .i64 least, .int .i64 most, vm] 81))
        rw [e0] at HC
        clear e0
        go_enter Tryz.func108, Tryz.ntmps108
        go_wp2_with fail
        refine Calls.mono HC.out ?_
        rintro e w1 ⟨rfl, hb1⟩
        have D1 : Hid (Below (w.heap.size + 3) (((w.alloc (.cells #[.int .i64 num, .int .i64 2, .slice o2 n2 k2, x3, x4, x5] 48)).alloc (.cells #[y0, .int .i64 role, .int .i64 amount] 106)).alloc (.cells #[z0, .int .i64 cap, .int .i64 least, .int .i64 most, vm] 81)) w1) := D0.out.trans (hb1.mono (by simp))
        have B1 : Hid (Below w.heap.size w w1) := below_end (below2 (below3 D1.out))
        have hs1 := B1.out.size
        have hs3 : w.heap.size + 3 ≤ w1.heap.size := by have := D1.out.size; simpa using this
        have u1 := box2_at _ _ _ (below3 D1.out) 1 (.int .i64 role) rfl
        have s3 := box3_at _ _ _ _ D1.out 3 (.int .i64 most) rfl
        have s4 := box3_at _ _ _ _ D1.out 4 vm rfl
        have qu1 := fun o => cell_past u1 (by omega) o
        have qs3 := fun o => cell_past s3 (by omega) o
        have qs4 := fun o => cell_past s4 (by omega) o
        clear hb1
        go_wp2_with fail
        go_ret
        exact ⟨by rw [show fitI least most may 2 ss role amount = false by unfold fitI; rw [hf]; show (true && decide (most = 0)) = _; rw [Bool.true_and]; exact decide_eq_false (by simpa using hz)]; rfl, B1.out.alloc hs1 _⟩
      · have ta0 : ∀ W, (Instr.typeAssert (.iface 163 (.agg #[])) 157 160 true).run Tryz.prog W = .ok (.tuple #[.agg #[.slice none 0 0], .bool false]) W := fun W => by kernel_rfl
        have ta1 : ∀ W, (Instr.typeAssert (.iface 163 (.agg #[])) 157 163 true).run Tryz.prog W = .ok (.tuple #[.agg #[], .bool true]) W := fun W => by kernel_rfl
        have e0 : clV 2 (.slice o2 n2 k2) = .iface 163 (.agg #[]) := rfl
        have HC : Hid _ := claiming_any num 2 o2 n2 k2 x3 x4 x5 (((w.alloc (.cells #[.int .i64 num, .int .i64 2, .slice o2 n2 k2, x3, x4, x5] 48)).alloc (.cells #[y0, .int .i64 role, .int .i64 amount] 106)).alloc (.cells #[z0, .int .i64 cap, .int .i64 least, .int .i64 most, vm] 81))
        rw [e0] at HC
        clear e0
        go_enter Tryz.func108, Tryz.ntmps108
        go_wp2_with fail
        refine Calls.mono HC.out ?_
        rintro e w1 ⟨rfl, hb1⟩
        have D1 : Hid (Below (w.heap.size + 3) (((w.alloc (.cells #[.int .i64 num, .int .i64 2, .slice o2 n2 k2, x3, x4, x5] 48)).alloc (.cells #[y0, .int .i64 role, .int .i64 amount] 106)).alloc (.cells #[z0, .int .i64 cap, .int .i64 least, .int .i64 most, vm] 81)) w1) := D0.out.trans (hb1.mono (by simp))
        have B1 : Hid (Below w.heap.size w w1) := below_end (below2 (below3 D1.out))
        have hs1 := B1.out.size
        have hs3 : w.heap.size + 3 ≤ w1.heap.size := by have := D1.out.size; simpa using this
        have u1 := box2_at _ _ _ (below3 D1.out) 1 (.int .i64 role) rfl
        have s3 := box3_at _ _ _ _ D1.out 3 (.int .i64 most) rfl
        have s4 := box3_at _ _ _ _ D1.out 4 vm rfl
        have qu1 := fun o => cell_past u1 (by omega) o
        have qs3 := fun o => cell_past s3 (by omega) o
        have qs4 := fun o => cell_past s4 (by omega) o
        clear hb1
        go_wp2_with fail
        go_ret
        exact ⟨by rw [show fitI least most may 2 ss role amount = true by unfold fitI; rw [hf]; show (true && decide (most = 0)) = _; rw [Bool.true_and]; exact decide_eq_true (by simpa using hz)]; rfl, B1.out.alloc hs1 _⟩
    · have ta0 : ∀ W, (Instr.typeAssert (.iface 169 (.agg #[])) 157 160 true).run Tryz.prog W = .ok (.tuple #[.agg #[.slice none 0 0], .bool false]) W := fun W => by kernel_rfl
      have ta1 : ∀ W, (Instr.typeAssert (.iface 169 (.agg #[])) 157 163 true).run Tryz.prog W = .ok (.tuple #[.agg #[], .bool false]) W := fun W => by kernel_rfl
      have e0 : clV 3 (.slice o2 n2 k2) = .iface 169 (.agg #[]) := rfl
      have HC : Hid _ := claiming_any num 3 o2 n2 k2 x3 x4 x5 (((w.alloc (.cells #[.int .i64 num, .int .i64 3, .slice o2 n2 k2, x3, x4, x5] 48)).alloc (.cells #[y0, .int .i64 role, .int .i64 amount] 106)).alloc (.cells #[z0, .int .i64 cap, .int .i64 least, .int .i64 most, vm] 81))
      rw [e0] at HC
      clear e0
      go_enter Tryz.func108, Tryz.ntmps108
      go_wp2_with fail
      refine Calls.mono HC.out ?_
      rintro e w1 ⟨rfl, hb1⟩
      have D1 : Hid (Below (w.heap.size + 3) (((w.alloc (.cells #[.int .i64 num, .int .i64 3, .slice o2 n2 k2, x3, x4, x5] 48)).alloc (.cells #[y0, .int .i64 role, .int .i64 amount] 106)).alloc (.cells #[z0, .int .i64 cap, .int .i64 least, .int .i64 most, vm] 81)) w1) := D0.out.trans (hb1.mono (by simp))
      have B1 : Hid (Below w.heap.size w w1) := below_end (below2 (below3 D1.out))
      have hs1 := B1.out.size
      have hs3 : w.heap.size + 3 ≤ w1.heap.size := by have := D1.out.size; simpa using this
      have u1 := box2_at _ _ _ (below3 D1.out) 1 (.int .i64 role) rfl
      have s3 := box3_at _ _ _ _ D1.out 3 (.int .i64 most) rfl
      have s4 := box3_at _ _ _ _ D1.out 4 vm rfl
      have qu1 := fun o => cell_past u1 (by omega) o
      have qs3 := fun o => cell_past s3 (by omega) o
      have qs4 := fun o => cell_past s4 (by omega) o
      clear hb1
      go_wp2_with fail
      go_ret
      exact ⟨by rw [show fitI least most may 3 ss role amount = true by unfold fitI; rw [hf]; rfl]; rfl, B1.out⟩
  · go_enter Tryz.func108, Tryz.ntmps108
    go_wp2_with fail
    go_ret
    exact ⟨by rw [show fitI least most may kind ss role amount = false by unfold fitI; rw [hf]; rfl]; rfl, B0.out⟩

set_option maxRecDepth 100000 in
set_option maxHeartbeats 8000000 in
theorem knowsI_any (S : Nat → Prop) (v0 v1 v2 v3 v4 x0 x1 x2 x3 x4 x5 : Value) (sp : List DClaimSpot) (va : List ByteArray) (us : List DClaimUse) (os cs : List ByteArray) (w : World) (h1 : AtL S w sp v1) (h2 : AtL S w va v2) (h3 : AtL S w us x3) (h4 : AtL S w os x4) (h5 : AtL S w cs x5) (hS : ∀ b, S b → b < w.heap.size) :
    Calls Tryz.prog 102 #[.agg #[v0, v1, v2, v3, v4], .agg #[x0, x1, x2, x3, x4, x5]] w fun e w' => e = .returned (.bool (knowB sp va us os cs)) ∧ Below w.heap.size w w' := by
  have H1 : Hid (∀ w', Below w.heap.size w w' → AtL S w' sp v1) := fun w' h => h1.same (Same.of_below h hS)
  have H2 : Hid (∀ w', Below w.heap.size w w' → AtL S w' va v2) := fun w' h => h2.same (Same.of_below h hS)
  have H4 : Hid (∀ w', Below w.heap.size w w' → AtL S w' os x4) := fun w' h => h4.same (Same.of_below h hS)
  have H5 : Hid (∀ w', Below w.heap.size w w' → AtL S w' cs x5) := fun w' h => h5.same (Same.of_below h hS)
  obtain ⟨p2, r2, rfl, _⟩ := h2
  obtain ⟨o4, k4, rfl, _⟩ := h4
  obtain ⟨o5, k5, rfl, _⟩ := h5
  clear h1
  obtain ⟨o3, k3, rfl, hn, hc⟩ := h3
  obtain ⟨n3, en⟩ : ∃ n, us.length = n := ⟨_, rfl⟩
  rw [en] at hn
  rw [en]
  unfold maxLen at hn
  have HC : Hid _ := hc
  clear hc
  go_enter Tryz.func102, Tryz.ntmps102
  go_wp2
  go_loopw [10] (fun i wr => ∃ k : Nat, k ≤ n3 ∧ i = .int .i64 k ∧ Hid (∀ j (hj : j < us.length), j < k → knowS sp us[j] = true) ∧ Hid (Below (w.heap.size + 2) ((w.alloc (.cells #[v0, v1, .slice p2 va.length r2, v3, v4] 33)).alloc (.cells #[x0, x1, x2, .slice o3 n3 k3, .slice o4 os.length k4, .slice o5 cs.length k5] 48)) wr)) (fun i _ => n3 - (intOf i).toNat)
  case atStart => exact ⟨0, Nat.zero_le _, rfl, fun _ _ h => by omega, Below.refl _ _⟩
  case round =>
    obtain ⟨k, hk, rfl, hall, E⟩ := hrel
    have B := below_end (below2 E.out)
    have hs := B.size
    have hs2 : w.heap.size + 2 ≤ wr.heap.size := by have := E.out.size; simpa using this
    have hSr : ∀ b, S b → b < wr.heap.size := fun b hb => by have := hS b hb; omega
    by_cases hlt : k < n3
    · obtain ⟨b, off, rfl, hbS, cc, hcell, hat⟩ := HC.out k (by omega)
      have hb := hS b hbS
      rw [width_DClaimUse] at hcell
      rw [at_DClaimUse] at hat
      have e0 : wr.cell? ⟨b, off + k * 3, none⟩ = some (cc 0) := (B.cell (p := ⟨b, off + k * 3, none⟩) hb).trans (by simpa using hcell 0 (by omega))
      rw [hat.1.1] at e0
      have e1 : wr.cell? ⟨b, off + k * 3 + 1, none⟩ = some (cc 1) := (B.cell (p := ⟨b, off + k * 3 + 1, none⟩) hb).trans (by simpa using hcell 1 (by omega))
      rw [hat.2.1.1] at e1
      have e2 : wr.cell? ⟨b, off + k * 3 + 2, none⟩ = some (cc 2) := (B.cell (p := ⟨b, off + k * 3 + 2, none⟩) hb).trans (by simpa using hcell 2 (by omega))
      rw [hat.2.2.1] at e2
      obtain ⟨f, ef⟩ : ∃ f, us[k]'(by omega) = f := ⟨_, rfl⟩
      rw [ef] at e0 e1 e2
      clear hcell hat
      have qy0 := fun o => cell_past (box_at _ _ (below2 E.out) 0 (v0) rfl) (by omega) o
      have qy1 := fun o => cell_past (box_at _ _ (below2 E.out) 1 (v1) rfl) (by omega) o
      have qy2 := fun o => cell_past (box_at _ _ (below2 E.out) 2 (.slice p2 va.length r2) rfl) (by omega) o
      have qy3 := fun o => cell_past (box_at _ _ (below2 E.out) 3 (v3) rfl) (by omega) o
      have qy4 := fun o => cell_past (box_at _ _ (below2 E.out) 4 (v4) rfl) (by omega) o
      have BA : Hid (Below (w.heap.size + 2) ((w.alloc (.cells #[v0, v1, .slice p2 va.length r2, v3, v4] 33)).alloc (.cells #[x0, x1, x2, .slice (some ⟨b, off, none⟩) n3 k3, .slice o4 os.length k4, .slice o5 cs.length k5] 48)) (wr.alloc (.cells #[.string f.1, .int .i64 f.2.1, .int .i64 f.2.2] 106))) := E.out.alloc (by omega) _
      have SA : ∀ b, S b → b < (wr.alloc (.cells #[.string f.1, .int .i64 f.2.1, .int .i64 f.2.2] 106)).heap.size := fun b hb => by have := hSr b hb; simp; omega
      have CA : Hid _ := spotAtI_any S v0 v1 (.slice p2 va.length r2) v3 v4 sp f.1 (wr.alloc (.cells #[.string f.1, .int .i64 f.2.1, .int .i64 f.2.2] 106)) (H1.out _ (below_end (below2 BA.out))) SA
      cases hx : decide (idxI sp (fun p : DClaimSpot => eqB p.1 f.1) < 0)
      · have hp : knowS sp (us[k]'(by omega)) = true := by rw [ef]; unfold knowS; rw [hx]; rfl
        go_wp2_with fail
        refine Calls.mono CA.out ?_
        rintro e w1 ⟨rfl, hb1⟩
        have E1 : Hid (Below (w.heap.size + 2) ((w.alloc (.cells #[v0, v1, .slice p2 va.length r2, v3, v4] 33)).alloc (.cells #[x0, x1, x2, .slice (some ⟨b, off, none⟩) n3 k3, .slice o4 os.length k4, .slice o5 cs.length k5] 48)) w1) := BA.out.trans (hb1.mono (by simp; omega))
        go_wp2_with fail
        go_roundw
        case rel => exact ⟨k + 1, by omega, by go_num, fun j hj hjk => by
          by_cases e : j = k
          · subst e; exact hp
          · exact hall.out j hj (by omega), E1.out⟩
        case measure => simp [intOf]; omega
      · have hp : knowS sp (us[k]'(by omega)) = false := by rw [ef]; unfold knowS; rw [hx]; rfl
        have hz : us.all (knowS sp) = false := all_no (k := k) (by omega) hp
        go_wp2_with fail
        refine Calls.mono CA.out ?_
        rintro e w1 ⟨rfl, hb1⟩
        have E1 : Hid (Below (w.heap.size + 2) ((w.alloc (.cells #[v0, v1, .slice p2 va.length r2, v3, v4] 33)).alloc (.cells #[x0, x1, x2, .slice (some ⟨b, off, none⟩) n3 k3, .slice o4 os.length k4, .slice o5 cs.length k5] 48)) w1) := BA.out.trans (hb1.mono (by simp; omega))
        go_wp2_with fail
        go_ret
        exact ⟨by rw [show knowB sp va us os cs = false by unfold knowB; rw [hz]; rfl]; rfl, below_end (below2 E1.out)⟩
    · have hz : us.all (knowS sp) = true := all_yes (fun j hj => hall.out j hj (by omega))
      have hq : knowB sp va us os cs = (allC' os va && allC' cs va) := by unfold knowB; rw [hz]; rfl
      have y2 := box_at _ _ (below2 E.out) 2 (.slice p2 va.length r2) rfl
      have y4 := box2_at _ _ _ E.out 4 (.slice o4 os.length k4) rfl
      have y5 := box2_at _ _ _ E.out 5 (.slice o5 cs.length k5) rfl
      cases c0 : allC' os va
      · go_wp2_with fail
        refine (all_any S _ _ os va _ (H4.out _ B) (H2.out _ B) hSr).mono ?_
        rintro e w1 ⟨rfl, hb1⟩
        rw [c0]
        have E1 : Hid (Below (w.heap.size + 2) ((w.alloc (.cells #[v0, v1, .slice p2 va.length r2, v3, v4] 33)).alloc (.cells #[x0, x1, x2, .slice o3 n3 k3, .slice o4 os.length k4, .slice o5 cs.length k5] 48)) w1) := E.out.trans (hb1.mono hs2)
        have B1 : Hid (Below w.heap.size w w1) := below_end (below2 E1.out)
        have S1 : ∀ b, S b → b < w1.heap.size := fun b hb => by have := hS b hb; have := B1.out.size; omega
        have z2 := box_at _ _ (below2 E1.out) 2 (.slice p2 va.length r2) rfl
        have z5 := box2_at _ _ _ E1.out 5 (.slice o5 cs.length k5) rfl
        clear hb1
        go_wp2_with fail
        go_ret
        exact ⟨by rw [hq, c0]; rfl, B1.out⟩
      · go_wp2_with fail
        refine (all_any S _ _ os va _ (H4.out _ B) (H2.out _ B) hSr).mono ?_
        rintro e w1 ⟨rfl, hb1⟩
        rw [c0]
        have E1 : Hid (Below (w.heap.size + 2) ((w.alloc (.cells #[v0, v1, .slice p2 va.length r2, v3, v4] 33)).alloc (.cells #[x0, x1, x2, .slice o3 n3 k3, .slice o4 os.length k4, .slice o5 cs.length k5] 48)) w1) := E.out.trans (hb1.mono hs2)
        have B1 : Hid (Below w.heap.size w w1) := below_end (below2 E1.out)
        have S1 : ∀ b, S b → b < w1.heap.size := fun b hb => by have := hS b hb; have := B1.out.size; omega
        have z2 := box_at _ _ (below2 E1.out) 2 (.slice p2 va.length r2) rfl
        have z5 := box2_at _ _ _ E1.out 5 (.slice o5 cs.length k5) rfl
        clear hb1
        go_wp2_with fail
        refine (all_any S _ _ cs va _ (H5.out _ B1.out) (H2.out _ B1.out) S1).mono ?_
        rintro e w2 ⟨rfl, hb2⟩
        go_wp2_with fail
        go_ret
        exact ⟨by rw [hq, c0]; rfl, B1.out.trans (hb2.mono B1.out.size)⟩

end Go.Proofs.YticojnepejboaacGreat
