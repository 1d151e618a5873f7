/-
  Several texts in one.
-/
import Derived.Test.YticojnepejboaacGreatCd
namespace Go.Proofs.YticojnepejboaacGreat

/-
  The model's crossing of two wants.
-/
section
open Go.RowKit

/-- Do the valves of two wants cross? -/
def crossB (ao az bo bs : List ByteArray) : Bool := shareB ao bo || shareB ao bs || shareB az bo

theorem below2 {w wr : World} {o p : Obj} (hb : Below (w.heap.size + 2) ((w.alloc o).alloc p) wr) : Below (w.heap.size + 1) (w.alloc o) wr :=
  ((Below.refl _ _).alloc (by simp) p).trans (hb.mono (by omega))
theorem box2_at {w : World} (o : Array Value) (t : TypeId) (q : Obj) {wr : World} (hb : Below (w.heap.size + 2) ((w.alloc q).alloc (.cells o t)) wr) (j : Nat) (v : Value) (h : o[j]? = some v) : wr.cell? ⟨w.heap.size + 1, j, none⟩ = some v := by
  have e : (w.alloc q).heap.size = w.heap.size + 1 := by simp
  have := box_at (w := w.alloc q) o t (wr := wr) (by rw [e]; exact hb) j v h
  rw [e] at this
  exact this

set_option maxRecDepth 100000 in
set_option maxHeartbeats 8000000 in
theorem crossC_any (S : Nat → Prop) (x0 x1 x2 x3 x4 x5 y0 y1 y2 y3 y4 y5 : Value) (ao az bo bs : List ByteArray) (w : World) (ha : AtL S w ao x4) (hb : AtL S w az x5) (hc : AtL S w bo y4) (hd : AtL S w bs y5) (hS : ∀ b, S b → b < w.heap.size) :
    Calls Tryz.prog 67 #[.agg #[x0, x1, x2, x3, x4, x5], .agg #[y0, y1, y2, y3, y4, y5]] w fun e w' => e = .returned (.bool (crossB ao az bo bs)) ∧ Below w.heap.size w w' := by
  have HA : Hid (∀ w', Below w.heap.size w w' → AtL S w' ao x4) := fun w' h => ha.same (Same.of_below h hS)
  have HB : Hid (∀ w', Below w.heap.size w w' → AtL S w' az x5) := fun w' h => hb.same (Same.of_below h hS)
  have HC : Hid (∀ w', Below w.heap.size w w' → AtL S w' bo y4) := fun w' h => hc.same (Same.of_below h hS)
  have HD : Hid (∀ w', Below w.heap.size w w' → AtL S w' bs y5) := fun w' h => hd.same (Same.of_below h hS)
  clear ha hb hc hd
  have D0 : Hid (Below (w.heap.size + 2) ((w.alloc (.cells #[x0, x1, x2, x3, x4, x5] 48)).alloc (.cells #[y0, y1, y2, y3, y4, y5] 48)) ((w.alloc (.cells #[x0, x1, x2, x3, x4, x5] 48)).alloc (.cells #[y0, y1, y2, y3, y4, y5] 48))) := Below.refl _ _
  have B0 : Hid (Below w.heap.size w ((w.alloc (.cells #[x0, x1, x2, x3, x4, x5] 48)).alloc (.cells #[y0, y1, y2, y3, y4, y5] 48))) := below_end (below2 D0.out)
  have S0 : ∀ b, S b → b < ((w.alloc (.cells #[x0, x1, x2, x3, x4, x5] 48)).alloc (.cells #[y0, y1, y2, y3, y4, y5] 48)).heap.size := fun b hb => by have := hS b hb; simp; omega
  go_enter Tryz.func67, Tryz.ntmps67
  cases h0 : shareB ao bo
  · go_wp2_with fail
    refine (shareC_any S _ _ ao bo _ (HA.out _ B0.out) (HC.out _ B0.out) S0).mono ?_
    rintro e w1 ⟨rfl, hb⟩
    rw [h0]
    have D1 : Hid (Below (w.heap.size + 2) ((w.alloc (.cells #[x0, x1, x2, x3, x4, x5] 48)).alloc (.cells #[y0, y1, y2, y3, y4, y5] 48)) w1) := D0.out.trans (hb.mono (by have := D0.out.size; simp at this ⊢; try omega))
    have B1 : Hid (Below w.heap.size w w1) := below_end (below2 D1.out)
    have S1 : ∀ b, S b → b < w1.heap.size := fun b hb => by have := hS b hb; have := B1.out.size; omega
    have p14 := box_at _ _ (below2 D1.out) 4 x4 rfl
    have p15 := box_at _ _ (below2 D1.out) 5 x5 rfl
    have q14 := box2_at _ _ _ D1.out 4 y4 rfl
    have q15 := box2_at _ _ _ D1.out 5 y5 rfl
    clear hb
    cases h1 : shareB ao bs
    · go_wp2_with fail
      refine (shareC_any S _ _ ao bs _ (HA.out _ B1.out) (HD.out _ B1.out) S1).mono ?_
      rintro e w2 ⟨rfl, hb⟩
      rw [h1]
      have D2 : Hid (Below (w.heap.size + 2) ((w.alloc (.cells #[x0, x1, x2, x3, x4, x5] 48)).alloc (.cells #[y0, y1, y2, y3, y4, y5] 48)) w2) := D1.out.trans (hb.mono (by have := D1.out.size; simp at this ⊢; try omega))
      have B2 : Hid (Below w.heap.size w w2) := below_end (below2 D2.out)
      have S2 : ∀ b, S b → b < w2.heap.size := fun b hb => by have := hS b hb; have := B2.out.size; omega
      have p24 := box_at _ _ (below2 D2.out) 4 x4 rfl
      have p25 := box_at _ _ (below2 D2.out) 5 x5 rfl
      have q24 := box2_at _ _ _ D2.out 4 y4 rfl
      have q25 := box2_at _ _ _ D2.out 5 y5 rfl
      clear hb
      cases h2 : shareB az bo
      · go_wp2_with fail
        refine (shareC_any S _ _ az bo _ (HB.out _ B2.out) (HC.out _ B2.out) S2).mono ?_
        rintro e w3 ⟨rfl, hb⟩
        rw [h2]
        have D3 : Hid (Below (w.heap.size + 2) ((w.alloc (.cells #[x0, x1, x2, x3, x4, x5] 48)).alloc (.cells #[y0, y1, y2, y3, y4, y5] 48)) w3) := D2.out.trans (hb.mono (by have := D2.out.size; simp at this ⊢; try omega))
        have B3 : Hid (Below w.heap.size w w3) := below_end (below2 D3.out)
        have S3 : ∀ b, S b → b < w3.heap.size := fun b hb => by have := hS b hb; have := B3.out.size; omega
        have p34 := box_at _ _ (below2 D3.out) 4 x4 rfl
        have p35 := box_at _ _ (below2 D3.out) 5 x5 rfl
        have q34 := box2_at _ _ _ D3.out 4 y4 rfl
        have q35 := box2_at _ _ _ D3.out 5 y5 rfl
        clear hb
        go_wp2_with fail
        go_ret
        exact ⟨by rw [show crossB ao az bo bs = false by simp [crossB, h0, h1, h2]]; rfl, B3.out⟩
      · go_wp2_with fail
        refine (shareC_any S _ _ az bo _ (HB.out _ B2.out) (HC.out _ B2.out) S2).mono ?_
        rintro e w3 ⟨rfl, hb⟩
        rw [h2]
        have D3 : Hid (Below (w.heap.size + 2) ((w.alloc (.cells #[x0, x1, x2, x3, x4, x5] 48)).alloc (.cells #[y0, y1, y2, y3, y4, y5] 48)) w3) := D2.out.trans (hb.mono (by have := D2.out.size; simp at this ⊢; try omega))
        have B3 : Hid (Below w.heap.size w w3) := below_end (below2 D3.out)
        have S3 : ∀ b, S b → b < w3.heap.size := fun b hb => by have := hS b hb; have := B3.out.size; omega
        have p34 := box_at _ _ (below2 D3.out) 4 x4 rfl
        have p35 := box_at _ _ (below2 D3.out) 5 x5 rfl
        have q34 := box2_at _ _ _ D3.out 4 y4 rfl
        have q35 := box2_at _ _ _ D3.out 5 y5 rfl
        clear hb
        go_wp2_with fail
        go_ret
        exact ⟨by rw [show crossB ao az bo bs = true by simp [crossB, h0, h1, h2]]; rfl, B3.out⟩
    · go_wp2_with fail
      refine (shareC_any S _ _ ao bs _ (HA.out _ B1.out) (HD.out _ B1.out) S1).mono ?_
      rintro e w2 ⟨rfl, hb⟩
      rw [h1]
      have D2 : Hid (Below (w.heap.size + 2) ((w.alloc (.cells #[x0, x1, x2, x3, x4, x5] 48)).alloc (.cells #[y0, y1, y2, y3, y4, y5] 48)) w2) := D1.out.trans (hb.mono (by have := D1.out.size; simp at this ⊢; try omega))
      have B2 : Hid (Below w.heap.size w w2) := below_end (below2 D2.out)
      have S2 : ∀ b, S b → b < w2.heap.size := fun b hb => by have := hS b hb; have := B2.out.size; omega
      have p24 := box_at _ _ (below2 D2.out) 4 x4 rfl
      have p25 := box_at _ _ (below2 D2.out) 5 x5 rfl
      have q24 := box2_at _ _ _ D2.out 4 y4 rfl
      have q25 := box2_at _ _ _ D2.out 5 y5 rfl
      clear hb
      go_wp2_with fail
      go_ret
      exact ⟨by rw [show crossB ao az bo bs = true by simp [crossB, h0, h1]]; rfl, B2.out⟩
  · go_wp2_with fail
    refine (shareC_any S _ _ ao bo _ (HA.out _ B0.out) (HC.out _ B0.out) S0).mono ?_
    rintro e w1 ⟨rfl, hb⟩
    rw [h0]
    have D1 : Hid (Below (w.heap.size + 2) ((w.alloc (.cells #[x0, x1, x2, x3, x4, x5] 48)).alloc (.cells #[y0, y1, y2, y3, y4, y5] 48)) w1) := D0.out.trans (hb.mono (by have := D0.out.size; simp at this ⊢; try omega))
    have B1 : Hid (Below w.heap.size w w1) := below_end (below2 D1.out)
    have S1 : ∀ b, S b → b < w1.heap.size := fun b hb => by have := hS b hb; have := B1.out.size; omega
    have p14 := box_at _ _ (below2 D1.out) 4 x4 rfl
    have p15 := box_at _ _ (below2 D1.out) 5 x5 rfl
    have q14 := box2_at _ _ _ D1.out 4 y4 rfl
    have q15 := box2_at _ _ _ D1.out 5 y5 rfl
    clear hb
    go_wp2_with fail
    go_ret
    exact ⟨by rw [show crossB ao az bo bs = true by simp [crossB, h0]]; rfl, B1.out⟩
end

/-
  The model's test of one use of a part against its spot.
-/
section
open Go.RowKit

/-- Does a use of a part fit its spot? -/
def fitB (least most : Int) (may : List ByteArray) (kind : Int) (stuffs : List ByteArray) (role amount : Int) : Bool :=
  !(decide (kind = 2) && decide (0 < most) || decide (kind = 1) && !decide (role = 2) && !allC' may stuffs || decide (kind = 1) && !decide (role = 1) && !allC' stuffs may) && decide (least + amount ≤ most)

theorem below3 {w wr : World} {o p q : Obj} (hb : Below (w.heap.size + 3) (((w.alloc o).alloc p).alloc q) wr) : Below (w.heap.size + 2) ((w.alloc o).alloc p) wr :=
  ((Below.refl _ _).alloc (by simp) q).trans (hb.mono (by omega))
theorem box3_at {w : World} (o : Array Value) (t : TypeId) (p q : Obj) {wr : World} (hb : Below (w.heap.size + 3) (((w.alloc p).alloc q).alloc (.cells o t)) wr) (j : Nat) (v : Value) (h : o[j]? = some v) : wr.cell? ⟨w.heap.size + 2, j, none⟩ = some v := by
  have e : (w.alloc p).heap.size = w.heap.size + 1 := by simp
  have := box2_at (w := w.alloc p) o t q (wr := wr) (by rw [e]; exact hb) j v h
  rw [e] at this
  exact this

set_option maxRecDepth 100000 in
set_option maxHeartbeats 8000000 in
theorem fitC_any (S : Nat → Prop) (nm : ByteArray) (cap least most kind role amount : Int) (vm x0 x2 x3 x4 x5 y0 : Value) (may stuffs : List ByteArray) (w : World) (ha : AtL S w may vm) (hb : AtL S w stuffs x2) (hS : ∀ b, S b → b < w.heap.size) (hr : -9223372036854775808 ≤ least + amount ∧ least + amount ≤ 9223372036854775807) :
    Calls Tryz.prog 83 #[.agg #[.string nm, .int .i64 cap, .int .i64 least, .int .i64 most, vm], .agg #[x0, .int .i64 kind, x2, x3, x4, x5], .agg #[y0, .int .i64 role, .int .i64 amount]] w fun e w' => e = .returned (.bool (fitB least most may kind stuffs role amount)) ∧ Below w.heap.size w w' := by
  have HA : Hid (∀ w', Below w.heap.size w w' → AtL S w' may vm) := fun w' h => ha.same (Same.of_below h hS)
  have HB : Hid (∀ w', Below w.heap.size w w' → AtL S w' stuffs x2) := fun w' h => hb.same (Same.of_below h hS)
  clear ha hb
  have D0 : Hid (Below (w.heap.size + 3) (((w.alloc (.cells #[.string nm, .int .i64 cap, .int .i64 least, .int .i64 most, vm] 81)).alloc (.cells #[x0, .int .i64 kind, x2, x3, x4, x5] 48)).alloc (.cells #[y0, .int .i64 role, .int .i64 amount] 106)) (((w.alloc (.cells #[.string nm, .int .i64 cap, .int .i64 least, .int .i64 most, vm] 81)).alloc (.cells #[x0, .int .i64 kind, x2, x3, x4, x5] 48)).alloc (.cells #[y0, .int .i64 role, .int .i64 amount] 106))) := Below.refl _ _
  have B0 : Hid (Below w.heap.size w (((w.alloc (.cells #[.string nm, .int .i64 cap, .int .i64 least, .int .i64 most, vm] 81)).alloc (.cells #[x0, .int .i64 kind, x2, x3, x4, x5] 48)).alloc (.cells #[y0, .int .i64 role, .int .i64 amount] 106))) := below_end (below2 (below3 D0.out))
  have S0 : ∀ b, S b → b < (((w.alloc (.cells #[.string nm, .int .i64 cap, .int .i64 least, .int .i64 most, vm] 81)).alloc (.cells #[x0, .int .i64 kind, x2, x3, x4, x5] 48)).alloc (.cells #[y0, .int .i64 role, .int .i64 amount] 106)).heap.size := fun b hb => by have := hS b hb; simp; omega
  go_enter Tryz.func83, Tryz.ntmps83
  by_cases k2 : kind = 2
  · subst k2
    cases hm : decide (0 < most)
    · have _u := trivial
      cases hf : decide (least + amount ≤ most)
      · go_wp2_with fail
        go_ret
        exact ⟨by rw [show fitB least most may _ stuffs _ amount = false by simp only [fitB, hm, hf]; rfl]; rfl, B0.out⟩
      · go_wp2_with fail
        go_ret
        exact ⟨by rw [show fitB least most may _ stuffs _ amount = true by simp only [fitB, hm, hf]; rfl]; rfl, B0.out⟩
    · have _u := trivial
      go_wp2_with fail
      go_ret
      exact ⟨by rw [show fitB least most may _ stuffs _ amount = false by simp [fitB, hm]]; rfl, B0.out⟩
  · have k2' : decide (kind = 2) = false := by simp [k2]
    by_cases k1 : kind = 1
    · subst k1
      by_cases r2 : role = 2
      · subst r2
        cases h0 : allC' stuffs may
        · go_wp2_with fail
          refine (allC_any S _ _ stuffs may _ (HB.out _ B0.out) (HA.out _ B0.out) S0).mono ?_
          rintro e w1 ⟨rfl, hb⟩
          rw [h0]
          have D1 : Hid (Below (w.heap.size + 3) (((w.alloc (.cells #[.string nm, .int .i64 cap, .int .i64 least, .int .i64 most, vm] 81)).alloc (.cells #[x0, .int .i64 1, x2, x3, x4, x5] 48)).alloc (.cells #[y0, .int .i64 2, .int .i64 amount] 106)) w1) := D0.out.trans (hb.mono (by have := D0.out.size; simp at this ⊢; try omega))
          have B1 : Hid (Below w.heap.size w w1) := below_end (below2 (below3 D1.out))
          have S1 : ∀ b, S b → b < w1.heap.size := fun b hb => by have := hS b hb; have := B1.out.size; omega
          have p12 := box_at _ _ (below2 (below3 D1.out)) 2 (.int .i64 least) rfl
          have p13 := box_at _ _ (below2 (below3 D1.out)) 3 (.int .i64 most) rfl
          have p14 := box_at _ _ (below2 (below3 D1.out)) 4 (vm) rfl
          have q11 := box2_at _ _ _ (below3 D1.out) 1 (.int .i64 1) rfl
          have q12 := box2_at _ _ _ (below3 D1.out) 2 (x2) rfl
          have r11 := box3_at _ _ _ _ D1.out 1 (.int .i64 _) rfl
          have r12 := box3_at _ _ _ _ D1.out 2 (.int .i64 _) rfl
          clear hb
          go_wp2_with fail
          go_ret
          exact ⟨by rw [show fitB least most may _ stuffs _ amount = false by simp [fitB, h0]]; rfl, B1.out⟩
        · go_wp2_with fail
          refine (allC_any S _ _ stuffs may _ (HB.out _ B0.out) (HA.out _ B0.out) S0).mono ?_
          rintro e w1 ⟨rfl, hb⟩
          rw [h0]
          have D1 : Hid (Below (w.heap.size + 3) (((w.alloc (.cells #[.string nm, .int .i64 cap, .int .i64 least, .int .i64 most, vm] 81)).alloc (.cells #[x0, .int .i64 1, x2, x3, x4, x5] 48)).alloc (.cells #[y0, .int .i64 2, .int .i64 amount] 106)) w1) := D0.out.trans (hb.mono (by have := D0.out.size; simp at this ⊢; try omega))
          have B1 : Hid (Below w.heap.size w w1) := below_end (below2 (below3 D1.out))
          have S1 : ∀ b, S b → b < w1.heap.size := fun b hb => by have := hS b hb; have := B1.out.size; omega
          have p12 := box_at _ _ (below2 (below3 D1.out)) 2 (.int .i64 least) rfl
          have p13 := box_at _ _ (below2 (below3 D1.out)) 3 (.int .i64 most) rfl
          have p14 := box_at _ _ (below2 (below3 D1.out)) 4 (vm) rfl
          have q11 := box2_at _ _ _ (below3 D1.out) 1 (.int .i64 1) rfl
          have q12 := box2_at _ _ _ (below3 D1.out) 2 (x2) rfl
          have r11 := box3_at _ _ _ _ D1.out 1 (.int .i64 _) rfl
          have r12 := box3_at _ _ _ _ D1.out 2 (.int .i64 _) rfl
          clear hb
          cases hf : decide (least + amount ≤ most)
          · go_wp2_with fail
            go_ret
            exact ⟨by rw [show fitB least most may _ stuffs _ amount = false by simp only [fitB, h0, hf]; rfl]; rfl, B1.out⟩
          · go_wp2_with fail
            go_ret
            exact ⟨by rw [show fitB least most may _ stuffs _ amount = true by simp only [fitB, h0, hf]; rfl]; rfl, B1.out⟩
      · have r2' : decide (role = 2) = false := by simp [r2]
        by_cases r1 : role = 1
        · subst r1
          cases h0 : allC' may stuffs
          · go_wp2_with fail
            refine (allC_any S _ _ may stuffs _ (HA.out _ B0.out) (HB.out _ B0.out) S0).mono ?_
            rintro e w1 ⟨rfl, hb⟩
            rw [h0]
            have D1 : Hid (Below (w.heap.size + 3) (((w.alloc (.cells #[.string nm, .int .i64 cap, .int .i64 least, .int .i64 most, vm] 81)).alloc (.cells #[x0, .int .i64 1, x2, x3, x4, x5] 48)).alloc (.cells #[y0, .int .i64 1, .int .i64 amount] 106)) w1) := D0.out.trans (hb.mono (by have := D0.out.size; simp at this ⊢; try omega))
            have B1 : Hid (Below w.heap.size w w1) := below_end (below2 (below3 D1.out))
            have S1 : ∀ b, S b → b < w1.heap.size := fun b hb => by have := hS b hb; have := B1.out.size; omega
            have p12 := box_at _ _ (below2 (below3 D1.out)) 2 (.int .i64 least) rfl
            have p13 := box_at _ _ (below2 (below3 D1.out)) 3 (.int .i64 most) rfl
            have p14 := box_at _ _ (below2 (below3 D1.out)) 4 (vm) rfl
            have q11 := box2_at _ _ _ (below3 D1.out) 1 (.int .i64 1) rfl
            have q12 := box2_at _ _ _ (below3 D1.out) 2 (x2) rfl
            have r11 := box3_at _ _ _ _ D1.out 1 (.int .i64 _) rfl
            have r12 := box3_at _ _ _ _ D1.out 2 (.int .i64 _) rfl
            clear hb
            go_wp2_with fail
            go_ret
            exact ⟨by rw [show fitB least most may _ stuffs _ amount = false by simp [fitB, h0]]; rfl, B1.out⟩
          · go_wp2_with fail
            refine (allC_any S _ _ may stuffs _ (HA.out _ B0.out) (HB.out _ B0.out) S0).mono ?_
            rintro e w1 ⟨rfl, hb⟩
            rw [h0]
            have D1 : Hid (Below (w.heap.size + 3) (((w.alloc (.cells #[.string nm, .int .i64 cap, .int .i64 least, .int .i64 most, vm] 81)).alloc (.cells #[x0, .int .i64 1, x2, x3, x4, x5] 48)).alloc (.cells #[y0, .int .i64 1, .int .i64 amount] 106)) w1) := D0.out.trans (hb.mono (by have := D0.out.size; simp at this ⊢; try omega))
            have B1 : Hid (Below w.heap.size w w1) := below_end (below2 (below3 D1.out))
            have S1 : ∀ b, S b → b < w1.heap.size := fun b hb => by have := hS b hb; have := B1.out.size; omega
            have p12 := box_at _ _ (below2 (below3 D1.out)) 2 (.int .i64 least) rfl
            have p13 := box_at _ _ (below2 (below3 D1.out)) 3 (.int .i64 most) rfl
            have p14 := box_at _ _ (below2 (below3 D1.out)) 4 (vm) rfl
            have q11 := box2_at _ _ _ (below3 D1.out) 1 (.int .i64 1) rfl
            have q12 := box2_at _ _ _ (below3 D1.out) 2 (x2) rfl
            have r11 := box3_at _ _ _ _ D1.out 1 (.int .i64 _) rfl
            have r12 := box3_at _ _ _ _ D1.out 2 (.int .i64 _) rfl
            clear hb
            cases hf : decide (least + amount ≤ most)
            · go_wp2_with fail
              go_ret
              exact ⟨by rw [show fitB least most may _ stuffs _ amount = false by simp only [fitB, h0, hf]; rfl]; rfl, B1.out⟩
            · go_wp2_with fail
              go_ret
              exact ⟨by rw [show fitB least most may _ stuffs _ amount = true by simp only [fitB, h0, hf]; rfl]; rfl, B1.out⟩
        · have r1' : decide (role = 1) = false := by simp [r1]
          cases h0 : allC' may stuffs
          · go_wp2_with fail
            refine (allC_any S _ _ may stuffs _ (HA.out _ B0.out) (HB.out _ B0.out) S0).mono ?_
            rintro e w1 ⟨rfl, hb⟩
            rw [h0]
            have D1 : Hid (Below (w.heap.size + 3) (((w.alloc (.cells #[.string nm, .int .i64 cap, .int .i64 least, .int .i64 most, vm] 81)).alloc (.cells #[x0, .int .i64 1, x2, x3, x4, x5] 48)).alloc (.cells #[y0, .int .i64 role, .int .i64 amount] 106)) w1) := D0.out.trans (hb.mono (by have := D0.out.size; simp at this ⊢; try omega))
            have B1 : Hid (Below w.heap.size w w1) := below_end (below2 (below3 D1.out))
            have S1 : ∀ b, S b → b < w1.heap.size := fun b hb => by have := hS b hb; have := B1.out.size; omega
            have p12 := box_at _ _ (below2 (below3 D1.out)) 2 (.int .i64 least) rfl
            have p13 := box_at _ _ (below2 (below3 D1.out)) 3 (.int .i64 most) rfl
            have p14 := box_at _ _ (below2 (below3 D1.out)) 4 (vm) rfl
            have q11 := box2_at _ _ _ (below3 D1.out) 1 (.int .i64 1) rfl
            have q12 := box2_at _ _ _ (below3 D1.out) 2 (x2) rfl
            have r11 := box3_at _ _ _ _ D1.out 1 (.int .i64 _) rfl
            have r12 := box3_at _ _ _ _ D1.out 2 (.int .i64 _) rfl
            clear hb
            go_wp2_with fail
            go_ret
            exact ⟨by rw [show fitB least most may _ stuffs _ amount = false by simp [fitB, r1', r2', h0]]; rfl, B1.out⟩
          · go_wp2_with fail
            refine (allC_any S _ _ may stuffs _ (HA.out _ B0.out) (HB.out _ B0.out) S0).mono ?_
            rintro e w1 ⟨rfl, hb⟩
            rw [h0]
            have D1 : Hid (Below (w.heap.size + 3) (((w.alloc (.cells #[.string nm, .int .i64 cap, .int .i64 least, .int .i64 most, vm] 81)).alloc (.cells #[x0, .int .i64 1, x2, x3, x4, x5] 48)).alloc (.cells #[y0, .int .i64 role, .int .i64 amount] 106)) w1) := D0.out.trans (hb.mono (by have := D0.out.size; simp at this ⊢; try omega))
            have B1 : Hid (Below w.heap.size w w1) := below_end (below2 (below3 D1.out))
            have S1 : ∀ b, S b → b < w1.heap.size := fun b hb => by have := hS b hb; have := B1.out.size; omega
            have p12 := box_at _ _ (below2 (below3 D1.out)) 2 (.int .i64 least) rfl
            have p13 := box_at _ _ (below2 (below3 D1.out)) 3 (.int .i64 most) rfl
            have p14 := box_at _ _ (below2 (below3 D1.out)) 4 (vm) rfl
            have q11 := box2_at _ _ _ (below3 D1.out) 1 (.int .i64 1) rfl
            have q12 := box2_at _ _ _ (below3 D1.out) 2 (x2) rfl
            have r11 := box3_at _ _ _ _ D1.out 1 (.int .i64 _) rfl
            have r12 := box3_at _ _ _ _ D1.out 2 (.int .i64 _) rfl
            clear hb
            cases h1 : allC' stuffs may
            · go_wp2_with fail
              refine (allC_any S _ _ stuffs may _ (HB.out _ B1.out) (HA.out _ B1.out) S1).mono ?_
              rintro e w2 ⟨rfl, hb⟩
              rw [h1]
              have D2 : Hid (Below (w.heap.size + 3) (((w.alloc (.cells #[.string nm, .int .i64 cap, .int .i64 least, .int .i64 most, vm] 81)).alloc (.cells #[x0, .int .i64 1, x2, x3, x4, x5] 48)).alloc (.cells #[y0, .int .i64 role, .int .i64 amount] 106)) w2) := D1.out.trans (hb.mono (by have := D1.out.size; simp at this ⊢; try omega))
              have B2 : Hid (Below w.heap.size w w2) := below_end (below2 (below3 D2.out))
              have S2 : ∀ b, S b → b < w2.heap.size := fun b hb => by have := hS b hb; have := B2.out.size; omega
              have p22 := box_at _ _ (below2 (below3 D2.out)) 2 (.int .i64 least) rfl
              have p23 := box_at _ _ (below2 (below3 D2.out)) 3 (.int .i64 most) rfl
              have p24 := box_at _ _ (below2 (below3 D2.out)) 4 (vm) rfl
              have q21 := box2_at _ _ _ (below3 D2.out) 1 (.int .i64 1) rfl
              have q22 := box2_at _ _ _ (below3 D2.out) 2 (x2) rfl
              have r21 := box3_at _ _ _ _ D2.out 1 (.int .i64 _) rfl
              have r22 := box3_at _ _ _ _ D2.out 2 (.int .i64 _) rfl
              clear hb
              go_wp2_with fail
              go_ret
              exact ⟨by rw [show fitB least most may _ stuffs _ amount = false by simp [fitB, r1', r2', h0, h1]]; rfl, B2.out⟩
            · go_wp2_with fail
              refine (allC_any S _ _ stuffs may _ (HB.out _ B1.out) (HA.out _ B1.out) S1).mono ?_
              rintro e w2 ⟨rfl, hb⟩
              rw [h1]
              have D2 : Hid (Below (w.heap.size + 3) (((w.alloc (.cells #[.string nm, .int .i64 cap, .int .i64 least, .int .i64 most, vm] 81)).alloc (.cells #[x0, .int .i64 1, x2, x3, x4, x5] 48)).alloc (.cells #[y0, .int .i64 role, .int .i64 amount] 106)) w2) := D1.out.trans (hb.mono (by have := D1.out.size; simp at this ⊢; try omega))
              have B2 : Hid (Below w.heap.size w w2) := below_end (below2 (below3 D2.out))
              have S2 : ∀ b, S b → b < w2.heap.size := fun b hb => by have := hS b hb; have := B2.out.size; omega
              have p22 := box_at _ _ (below2 (below3 D2.out)) 2 (.int .i64 least) rfl
              have p23 := box_at _ _ (below2 (below3 D2.out)) 3 (.int .i64 most) rfl
              have p24 := box_at _ _ (below2 (below3 D2.out)) 4 (vm) rfl
              have q21 := box2_at _ _ _ (below3 D2.out) 1 (.int .i64 1) rfl
              have q22 := box2_at _ _ _ (below3 D2.out) 2 (x2) rfl
              have r21 := box3_at _ _ _ _ D2.out 1 (.int .i64 _) rfl
              have r22 := box3_at _ _ _ _ D2.out 2 (.int .i64 _) rfl
              clear hb
              cases hf : decide (least + amount ≤ most)
              · go_wp2_with fail
                go_ret
                exact ⟨by rw [show fitB least most may _ stuffs _ amount = false by simp only [fitB, r1', r2', h0, h1, hf]; rfl]; rfl, B2.out⟩
              · go_wp2_with fail
                go_ret
                exact ⟨by rw [show fitB least most may _ stuffs _ amount = true by simp only [fitB, r1', r2', h0, h1, hf]; rfl]; rfl, B2.out⟩
    · have k1' : decide (kind = 1) = false := by simp [k1]
      cases hf : decide (least + amount ≤ most)
      · go_wp2_with fail
        go_ret
        exact ⟨by rw [show fitB least most may _ stuffs _ amount = false by simp only [fitB, k1', k2', hf]; rfl]; rfl, B0.out⟩
      · go_wp2_with fail
        go_ret
        exact ⟨by rw [show fitB least most may _ stuffs _ amount = true by simp only [fitB, k1', k2', hf]; rfl]; rfl, B0.out⟩
end

/-
  The model's test that a book knows a want's spots and valves.
-/
section
open Go.RowKit

/-- Is a use's spot known? -/
def knowS (sp : List DClaimSpot) (u : DClaimUse) : Bool := !decide (idxI sp (fun p : DClaimSpot => eqB p.1 u.1) < 0)
/-- Are a want's spots and valves known? -/
def knowB (sp : List DClaimSpot) (va : List ByteArray) (us : List DClaimUse) (os cs : List ByteArray) : Bool := us.all (knowS sp) && (os.all (hasB va) && cs.all (hasB va))

open Go.Sort in
theorem spotC_q (S : Nat → Prop) (v0 v1 v2 v3 v4 : Value) (l : List DClaimSpot) (x : ByteArray) (wr : World) (h : AtL S wr l v1) (hS : ∀ b, S b → b < wr.heap.size) (r : Int) (hr : idxI l (fun p : DClaimSpot => eqB p.1 x) = r) (d : Nat) (os : Array Obj) : Calls Tryz.prog 84 #[.agg #[v0, v1, v2, v3, v4], .string x] (grow (redrawn wr d) os) fun e w'' => e = .returned (.int .i64 r) ∧ ∃ p : Regrown, w'' = grow (redrawn wr p.d) p.os :=
  Calls.regrown_of (by subst hr; exact spotC_any S v0 v1 v2 v3 v4 l x _ (h.same (Same.of_below (below_regrown wr d os) hS)) (fun b hb => Nat.lt_of_lt_of_le (hS b hb) (below_regrown wr d os).size))
open Go.Sort in
theorem hasC_q (S : Nat → Prop) (v : Value) (l : List ByteArray) (x : ByteArray) (wr : World) (h : AtL S wr l v) (hS : ∀ b, S b → b < wr.heap.size) (r : Bool) (hr : hasB l x = r) (d : Nat) (os : Array Obj) : Calls Tryz.prog 85 #[v, .string x] (grow (redrawn wr d) os) fun e w'' => e = .returned (.bool r) ∧ ∃ p : Regrown, w'' = grow (redrawn wr p.d) p.os :=
  Calls.regrown_of (by subst hr; exact hasC_any S v l x _ (h.same (Same.of_below (below_regrown wr d os) hS)))

set_option maxRecDepth 100000 in
set_option maxHeartbeats 8000000 in
theorem knowC_any (S : Nat → Prop) (v0 v1 v2 v3 v4 x0 x1 x2 x3 x4 x5 : Value) (sp : List DClaimSpot) (va : List ByteArray) (us : List DClaimUse) (os cs : List ByteArray) (w : World) (h1 : AtL S w sp v1) (h2 : AtL S w va v2) (h3 : AtL S w us x3) (h4 : AtL S w os x4) (h5 : AtL S w cs x5) (hS : ∀ b, S b → b < w.heap.size) :
    Calls Tryz.prog 82 #[.agg #[v0, v1, v2, v3, v4], .agg #[x0, x1, x2, x3, x4, x5]] w fun e w' => e = .returned (.bool (knowB sp va us os cs)) ∧ Below w.heap.size w w' := by
  have H1 : Hid (∀ w', Below w.heap.size w w' → AtL S w' sp v1) := fun w' h => h1.same (Same.of_below h hS)
  have H2 : Hid (∀ w', Below w.heap.size w w' → AtL S w' va v2) := fun w' h => h2.same (Same.of_below h hS)
  clear h1 h2
  obtain ⟨o3, k3, rfl, hn3, hc3⟩ := h3
  obtain ⟨n3, en3⟩ : ∃ n, us.length = n := ⟨_, rfl⟩
  rw [en3] at hn3
  rw [en3]
  have C3 : Hid _ := hc3
  clear hc3
  obtain ⟨o4, k4, rfl, hn4, hc4⟩ := h4
  obtain ⟨n4, en4⟩ : ∃ n, os.length = n := ⟨_, rfl⟩
  rw [en4] at hn4
  rw [en4]
  have C4 : Hid _ := hc4
  clear hc4
  obtain ⟨o5, k5, rfl, hn5, hc5⟩ := h5
  obtain ⟨n5, en5⟩ : ∃ n, cs.length = n := ⟨_, rfl⟩
  rw [en5] at hn5
  rw [en5]
  have C5 : Hid _ := hc5
  clear hc5
  unfold maxLen at hn3 hn4 hn5
  go_enter Tryz.func82, Tryz.ntmps82
  go_wp2
  go_loopw [5] (fun i wr => ∃ k : Nat, k ≤ n3 ∧ i = .int .i64 k ∧ Hid (∀ j (hj : j < us.length), j < k → (knowS sp) us[j] = true) ∧ Hid (Below (w.heap.size + 2) ((w.alloc (.cells #[v0, v1, v2, v3, v4] 33)).alloc (.cells #[x0, x1, x2, .slice o3 n3 k3, .slice o4 n4 k4, .slice o5 n5 k5] 48)) wr)) (fun i _ => n3 - (intOf i).toNat)
  case atStart => exact ⟨0, Nat.zero_le _, rfl, fun _ _ h => by omega, Below.refl _ _⟩
  case round =>
    obtain ⟨a3, hk3, rfl, hno3, E3⟩ := hrel
    have B3 := below_end (below2 E3.out)
    have hs3 := B3.size
    have hSr3 : ∀ b, S b → b < wr.heap.size := fun b hb => by have := hS b hb; omega
    have G3 := H1.out _ B3
    have q30 := fun d os => cell_regrown (box_at _ _ (below2 E3.out) 0 v0 rfl) d os
    have q31 := fun d os => cell_regrown (box_at _ _ (below2 E3.out) 1 v1 rfl) d os
    have q32 := fun d os => cell_regrown (box_at _ _ (below2 E3.out) 2 v2 rfl) d os
    have q33 := fun d os => cell_regrown (box_at _ _ (below2 E3.out) 3 v3 rfl) d os
    have q34 := fun d os => cell_regrown (box_at _ _ (below2 E3.out) 4 v4 rfl) d os
    have y33 := box2_at _ _ _ E3.out 3 (.slice o3 n3 k3) rfl
    have y34 := box2_at _ _ _ E3.out 4 (.slice o4 n4 k4) rfl
    have y35 := box2_at _ _ _ E3.out 5 (.slice o5 n5 k5) rfl
    have z33 := fun d os => cell_regrown y33 d os
    have z34 := fun d os => cell_regrown y34 d os
    have z35 := fun d os => cell_regrown y35 d os
    by_cases hlt3 : a3 < n3
    · obtain ⟨q, off, rfl, hqS, cc, hcell, hat⟩ := C3.out a3 (by omega)
      have hq := hS q hqS
      rw [width_DClaimUse] at hcell
      have e0 : wr.cell? ⟨q, off + a3 * 3, none⟩ = some (cc 0) := (B3.cell (p := ⟨q, off + a3 * 3, none⟩) hq).trans (by simpa using hcell 0 (by omega))
      rw [at_DClaimUse] at hat
      rw [hat.1.1] at e0
      clear hcell hat
      obtain ⟨f, ef⟩ : ∃ f, us[a3]'(by omega) = f := ⟨_, rfl⟩
      rw [ef] at e0
      have qe := fun d os => cell_regrown e0 d os
      obtain ⟨r, hr⟩ : ∃ r, idxI sp (fun p : DClaimSpot => eqB p.1 f.1) = r := ⟨_, rfl⟩
      cases hy : decide (r < 0)
      · have hp : (knowS sp) (us[a3]'(by omega)) = true := by rw [ef]; show (!decide (idxI sp (fun p : DClaimSpot => eqB p.1 f.1) < 0)) = _; rw [hr, hy]; rfl
        go_wp2
        refine wp_region_quiet_below (by kernel_rfl) (by kernel_rfl) ?_
        repeat (first | go_big_quiet_step (with_reducible exact spotC_q S _ _ _ _ _ sp _ _ G3 hSr3 _ hr _ _) | quiet_step (with_reducible exact spotC_q S _ _ _ _ _ sp _ _ G3 hSr3 _ hr _ _))
        refine wpQuiet_nil ?_
        intro _ hw'
        obtain ⟨⟨dq, osq⟩, hw''⟩ := hw'
        subst hw''
        go_wp2
        go_roundw
        case rel => exact ⟨a3 + 1, by omega, by go_num, fun j hj hjk => by
          by_cases e : j = a3
          · subst e; exact hp
          · exact hno3.out j hj (by omega), E3.out.trans ((below_regrown _ dq osq).mono (by have := E3.out.size; simp at this; exact this))⟩
        case measure => simp [intOf]; omega
      · have hp : (knowS sp) (us[a3]'(by omega)) = false := by rw [ef]; show (!decide (idxI sp (fun p : DClaimSpot => eqB p.1 f.1) < 0)) = _; rw [hr, hy]; rfl
        go_wp2
        refine wp_region_quiet_below (by kernel_rfl) (by kernel_rfl) ?_
        repeat (first | go_big_quiet_step (with_reducible exact spotC_q S _ _ _ _ _ sp _ _ G3 hSr3 _ hr _ _) | quiet_step (with_reducible exact spotC_q S _ _ _ _ _ sp _ _ G3 hSr3 _ hr _ _))
        refine wpQuiet_nil ?_
        intro _ hw'
        obtain ⟨⟨dq, osq⟩, hw''⟩ := hw'
        subst hw''
        go_wp2
        go_ret
        have hz : us.all (knowS sp) = false := all_no (k := a3) (by omega) hp
        exact ⟨by rw [show knowB sp va us os cs = false by unfold knowB; rw [hz]; rfl]; rfl, below_end (below2 (E3.out.trans ((below_regrown _ dq osq).mono (by have := E3.out.size; simp at this; exact this))))⟩
    · have A3 : us.all (knowS sp) = true := all_yes (fun j hj => hno3.out j hj (by omega))
      go_wp2
      go_loopw [6] (fun i wr => ∃ k : Nat, k ≤ n4 ∧ i = .int .i64 k ∧ Hid (∀ j (hj : j < os.length), j < k → (hasB va) os[j] = true) ∧ Hid (Below (w.heap.size + 2) ((w.alloc (.cells #[v0, v1, v2, v3, v4] 33)).alloc (.cells #[x0, x1, x2, .slice o3 n3 k3, .slice o4 n4 k4, .slice o5 n5 k5] 48)) wr)) (fun i _ => n4 - (intOf i).toNat)
      case atStart => exact ⟨0, Nat.zero_le _, rfl, fun _ _ h => by omega, E3.out⟩
      case round =>
        obtain ⟨a4, hk4, rfl, hno4, E4⟩ := hrel
        have B4 := below_end (below2 E4.out)
        have hs4 := B4.size
        have hSr4 : ∀ b, S b → b < wr.heap.size := fun b hb => by have := hS b hb; omega
        have G4 := H2.out _ B4
        have q40 := fun d os => cell_regrown (box_at _ _ (below2 E4.out) 0 v0 rfl) d os
        have q41 := fun d os => cell_regrown (box_at _ _ (below2 E4.out) 1 v1 rfl) d os
        have q42 := fun d os => cell_regrown (box_at _ _ (below2 E4.out) 2 v2 rfl) d os
        have q43 := fun d os => cell_regrown (box_at _ _ (below2 E4.out) 3 v3 rfl) d os
        have q44 := fun d os => cell_regrown (box_at _ _ (below2 E4.out) 4 v4 rfl) d os
        have y43 := box2_at _ _ _ E4.out 3 (.slice o3 n3 k3) rfl
        have y44 := box2_at _ _ _ E4.out 4 (.slice o4 n4 k4) rfl
        have y45 := box2_at _ _ _ E4.out 5 (.slice o5 n5 k5) rfl
        have z43 := fun d os => cell_regrown y43 d os
        have z44 := fun d os => cell_regrown y44 d os
        have z45 := fun d os => cell_regrown y45 d os
        by_cases hlt4 : a4 < n4
        · obtain ⟨q, off, rfl, hqS, cc, hcell, hat⟩ := C4.out a4 (by omega)
          have hq := hS q hqS
          rw [width_str] at hcell
          have e0 : wr.cell? ⟨q, off + a4, none⟩ = some (cc 0) := (B4.cell (p := ⟨q, off + a4, none⟩) hq).trans (by simpa using hcell 0 (by omega))
          rw [at_str] at hat
          rw [hat.1] at e0
          clear hcell hat
          obtain ⟨f, ef⟩ : ∃ f, os[a4]'(by omega) = f := ⟨_, rfl⟩
          rw [ef] at e0
          have qe := fun d os => cell_regrown e0 d os
          cases hy : hasB va f
          · have hp : (hasB va) (os[a4]'(by omega)) = false := by rw [ef]; exact hy
            go_wp2
            refine wp_region_quiet_below (by kernel_rfl) (by kernel_rfl) ?_
            repeat (first | go_big_quiet_step (with_reducible exact hasC_q S _ va _ _ G4 hSr4 _ hy _ _) | quiet_step (with_reducible exact hasC_q S _ va _ _ G4 hSr4 _ hy _ _))
            refine wpQuiet_nil ?_
            intro _ hw'
            obtain ⟨⟨dq, osq⟩, hw''⟩ := hw'
            subst hw''
            go_wp2
            go_ret
            have hz : os.all (hasB va) = false := all_no (k := a4) (by omega) hp
            exact ⟨by rw [show knowB sp va us os cs = false by unfold knowB; rw [A3, hz]; rfl]; rfl, below_end (below2 (E4.out.trans ((below_regrown _ dq osq).mono (by have := E4.out.size; simp at this; exact this))))⟩
          · have hp : (hasB va) (os[a4]'(by omega)) = true := by rw [ef]; exact hy
            go_wp2
            refine wp_region_quiet_below (by kernel_rfl) (by kernel_rfl) ?_
            repeat (first | go_big_quiet_step (with_reducible exact hasC_q S _ va _ _ G4 hSr4 _ hy _ _) | quiet_step (with_reducible exact hasC_q S _ va _ _ G4 hSr4 _ hy _ _))
            refine wpQuiet_nil ?_
            intro _ hw'
            obtain ⟨⟨dq, osq⟩, hw''⟩ := hw'
            subst hw''
            go_wp2
            go_roundw
            case rel => exact ⟨a4 + 1, by omega, by go_num, fun j hj hjk => by
              by_cases e : j = a4
              · subst e; exact hp
              · exact hno4.out j hj (by omega), E4.out.trans ((below_regrown _ dq osq).mono (by have := E4.out.size; simp at this; exact this))⟩
            case measure => simp [intOf]; omega
        · have A4 : os.all (hasB va) = true := all_yes (fun j hj => hno4.out j hj (by omega))
          go_wp2
          go_loopw [7] (fun i wr => ∃ k : Nat, k ≤ n5 ∧ i = .int .i64 k ∧ Hid (∀ j (hj : j < cs.length), j < k → (hasB va) cs[j] = true) ∧ Hid (Below (w.heap.size + 2) ((w.alloc (.cells #[v0, v1, v2, v3, v4] 33)).alloc (.cells #[x0, x1, x2, .slice o3 n3 k3, .slice o4 n4 k4, .slice o5 n5 k5] 48)) wr)) (fun i _ => n5 - (intOf i).toNat)
          case atStart => exact ⟨0, Nat.zero_le _, rfl, fun _ _ h => by omega, E4.out⟩
          case round =>
            obtain ⟨a5, hk5, rfl, hno5, E5⟩ := hrel
            have B5 := below_end (below2 E5.out)
            have hs5 := B5.size
            have hSr5 : ∀ b, S b → b < wr.heap.size := fun b hb => by have := hS b hb; omega
            have G5 := H2.out _ B5
            have q50 := fun d os => cell_regrown (box_at _ _ (below2 E5.out) 0 v0 rfl) d os
            have q51 := fun d os => cell_regrown (box_at _ _ (below2 E5.out) 1 v1 rfl) d os
            have q52 := fun d os => cell_regrown (box_at _ _ (below2 E5.out) 2 v2 rfl) d os
            have q53 := fun d os => cell_regrown (box_at _ _ (below2 E5.out) 3 v3 rfl) d os
            have q54 := fun d os => cell_regrown (box_at _ _ (below2 E5.out) 4 v4 rfl) d os
            have y53 := box2_at _ _ _ E5.out 3 (.slice o3 n3 k3) rfl
            have y54 := box2_at _ _ _ E5.out 4 (.slice o4 n4 k4) rfl
            have y55 := box2_at _ _ _ E5.out 5 (.slice o5 n5 k5) rfl
            have z53 := fun d os => cell_regrown y53 d os
            have z54 := fun d os => cell_regrown y54 d os
            have z55 := fun d os => cell_regrown y55 d os
            by_cases hlt5 : a5 < n5
            · obtain ⟨q, off, rfl, hqS, cc, hcell, hat⟩ := C5.out a5 (by omega)
              have hq := hS q hqS
              rw [width_str] at hcell
              have e0 : wr.cell? ⟨q, off + a5, none⟩ = some (cc 0) := (B5.cell (p := ⟨q, off + a5, none⟩) hq).trans (by simpa using hcell 0 (by omega))
              rw [at_str] at hat
              rw [hat.1] at e0
              clear hcell hat
              obtain ⟨f, ef⟩ : ∃ f, cs[a5]'(by omega) = f := ⟨_, rfl⟩
              rw [ef] at e0
              have qe := fun d os => cell_regrown e0 d os
              cases hy : hasB va f
              · have hp : (hasB va) (cs[a5]'(by omega)) = false := by rw [ef]; exact hy
                go_wp2
                refine wp_region_quiet_below (by kernel_rfl) (by kernel_rfl) ?_
                repeat (first | go_big_quiet_step (with_reducible exact hasC_q S _ va _ _ G5 hSr5 _ hy _ _) | quiet_step (with_reducible exact hasC_q S _ va _ _ G5 hSr5 _ hy _ _))
                refine wpQuiet_nil ?_
                intro _ hw'
                obtain ⟨⟨dq, osq⟩, hw''⟩ := hw'
                subst hw''
                go_wp2
                go_ret
                have hz : cs.all (hasB va) = false := all_no (k := a5) (by omega) hp
                exact ⟨by rw [show knowB sp va us os cs = false by unfold knowB; rw [A3, A4, hz]; rfl]; rfl, below_end (below2 (E5.out.trans ((below_regrown _ dq osq).mono (by have := E5.out.size; simp at this; exact this))))⟩
              · have hp : (hasB va) (cs[a5]'(by omega)) = true := by rw [ef]; exact hy
                go_wp2
                refine wp_region_quiet_below (by kernel_rfl) (by kernel_rfl) ?_
                repeat (first | go_big_quiet_step (with_reducible exact hasC_q S _ va _ _ G5 hSr5 _ hy _ _) | quiet_step (with_reducible exact hasC_q S _ va _ _ G5 hSr5 _ hy _ _))
                refine wpQuiet_nil ?_
                intro _ hw'
                obtain ⟨⟨dq, osq⟩, hw''⟩ := hw'
                subst hw''
                go_wp2
                go_roundw
                case rel => exact ⟨a5 + 1, by omega, by go_num, fun j hj hjk => by
                  by_cases e : j = a5
                  · subst e; exact hp
                  · exact hno5.out j hj (by omega), E5.out.trans ((below_regrown _ dq osq).mono (by have := E5.out.size; simp at this; exact this))⟩
                case measure => simp [intOf]; omega
            · have A5 : cs.all (hasB va) = true := all_yes (fun j hj => hno5.out j hj (by omega))
              go_wp2
              go_ret
              exact ⟨by rw [show knowB sp va us os cs = true by unfold knowB; rw [A3, A4, A5]; rfl]; rfl, B5⟩
end

/-
  The model's test of one spot of a book.
-/
section
open Go.RowKit

/-- May a stuff of a spot not meet another of it? -/
def peaceB (foes : List DClaimFoe) (may : List ByteArray) (x : ByteArray) : Bool := !clashC foes x may
/-- Is a spot as it is to be? -/
noncomputable def spotB (foes : List DClaimFoe) (s : DClaimSpot) : Bool := nameB s.1 && (inB s.2.1 0 1000 && (inB s.2.2.1 0 s.2.2.2.1 && (!decide (s.2.1 < s.2.2.2.1) && (okB 8 (tst nameB ltB) s.2.2.2.2 && s.2.2.2.2.all (peaceB foes s.2.2.2.2)))))

open Go.Sort in
theorem clashC_q (S : Nat → Prop) (v0 v1 v2 v3 v4 vm : Value) (l : List DClaimFoe) (x : ByteArray) (may : List ByteArray) (wr : World) (h : AtL S wr l v0) (hm : AtL S wr may vm) (hS : ∀ b, S b → b < wr.heap.size) (r : Bool) (hr : clashC l x may = r) (d : Nat) (os : Array Obj) : Calls Tryz.prog 63 #[.agg #[v0, v1, v2, v3, v4], .string x, vm] (grow (redrawn wr d) os) fun e w'' => e = .returned (.bool r) ∧ ∃ p : Regrown, w'' = grow (redrawn wr p.d) p.os :=
  Calls.regrown_of (by subst hr; exact clashC_any S v0 v1 v2 v3 v4 vm l x may _ (h.same (Same.of_below (below_regrown wr d os) hS)) (hm.same (Same.of_below (below_regrown wr d os) hS)) (fun b hb => Nat.lt_of_lt_of_le (hS b hb) (below_regrown wr d os).size))

set_option maxRecDepth 100000 in
set_option maxHeartbeats 8000000 in
theorem spotokC_any (S : Nat → Prop) (v0 v1 v2 v3 v4 vm : Value) (foes : List DClaimFoe) (nm : ByteArray) (cap least most : Int) (may : List ByteArray) (w : World) (h0 : AtL S w foes v0) (hz : nm.size ≤ maxLen) (hm : AtL S w may vm) (hS : ∀ b, S b → b < w.heap.size) :
    Calls Tryz.prog 43 #[.agg #[v0, v1, v2, v3, v4], .agg #[.string nm, .int .i64 cap, .int .i64 least, .int .i64 most, vm]] w fun e w' => e = .returned (.bool (spotB foes (nm, cap, least, most, may))) ∧ Below w.heap.size w w' := by
  have H0 : Hid (∀ w', Below w.heap.size w w' → AtL S w' foes v0) := fun w' h => h0.same (Same.of_below h hS)
  have HM : Hid (∀ w', Below w.heap.size w w' → AtL S w' may vm) := fun w' h => hm.same (Same.of_below h hS)
  clear h0
  obtain ⟨om, km, rfl, hn, hc⟩ := hm
  obtain ⟨nm8, en⟩ : ∃ n, may.length = n := ⟨_, rfl⟩
  rw [en] at hn HM
  rw [en]
  unfold maxLen at hn
  have HC : Hid _ := hc
  clear hc
  have D0 : Hid (Below (w.heap.size + 2) ((w.alloc (.cells #[v0, v1, v2, v3, v4] 33)).alloc (.cells #[.string nm, .int .i64 cap, .int .i64 least, .int .i64 most, .slice om nm8 km] 81)) ((w.alloc (.cells #[v0, v1, v2, v3, v4] 33)).alloc (.cells #[.string nm, .int .i64 cap, .int .i64 least, .int .i64 most, .slice om nm8 km] 81))) := Below.refl _ _
  have B0 : Hid (Below w.heap.size w ((w.alloc (.cells #[v0, v1, v2, v3, v4] 33)).alloc (.cells #[.string nm, .int .i64 cap, .int .i64 least, .int .i64 most, .slice om nm8 km] 81))) := below_end (below2 D0.out)
  have S0 : ∀ b, S b → b < ((w.alloc (.cells #[v0, v1, v2, v3, v4] 33)).alloc (.cells #[.string nm, .int .i64 cap, .int .i64 least, .int .i64 most, .slice om nm8 km] 81)).heap.size := fun b hb => by have := hS b hb; simp; omega
  go_enter Tryz.func43, Tryz.ntmps43
  cases c0 : nameB nm
  · go_wp2_with fail
    refine (nameC_any _ _ hz).mono ?_
    rintro e w1 ⟨rfl, rfl⟩
    rw [c0]
    go_wp2_with fail
    go_ret
    exact ⟨by rw [show spotB foes (nm, cap, least, most, may) = false by simp only [spotB]; rw [c0]; rfl]; rfl, B0.out⟩
  · go_wp2_with fail
    refine (nameC_any _ _ hz).mono ?_
    rintro e w1 ⟨rfl, rfl⟩
    rw [c0]
    cases c1 : inB cap 0 1000
    · go_wp2_with fail
      refine (inC_any _ _ _ _).mono ?_
      rintro e w1 ⟨rfl, rfl⟩
      rw [c1]
      go_wp2_with fail
      go_ret
      exact ⟨by rw [show spotB foes (nm, cap, least, most, may) = false by simp only [spotB]; rw [c0, c1]; rfl]; rfl, B0.out⟩
    · go_wp2_with fail
      refine (inC_any _ _ _ _).mono ?_
      rintro e w1 ⟨rfl, rfl⟩
      rw [c1]
      cases c2 : inB least 0 most
      · go_wp2_with fail
        refine (inC_any _ _ _ _).mono ?_
        rintro e w1 ⟨rfl, rfl⟩
        rw [c2]
        go_wp2_with fail
        go_ret
        exact ⟨by rw [show spotB foes (nm, cap, least, most, may) = false by simp only [spotB]; rw [c0, c1, c2]; rfl]; rfl, B0.out⟩
      · go_wp2_with fail
        refine (inC_any _ _ _ _).mono ?_
        rintro e w1 ⟨rfl, rfl⟩
        rw [c2]
        cases c3 : decide (cap < most)
        · have _u := trivial
          cases c4 : okB 8 (tst nameB ltB) may
          · go_wp2_with fail
            refine (namesC_any S _ may 8 _ (HM.out _ B0.out) S0).mono ?_
            rintro e w1 ⟨rfl, hb⟩
            rw [c4]
            have D1 : Hid (Below (w.heap.size + 2) ((w.alloc (.cells #[v0, v1, v2, v3, v4] 33)).alloc (.cells #[.string nm, .int .i64 cap, .int .i64 least, .int .i64 most, .slice om nm8 km] 81)) w1) := D0.out.trans (hb.mono (by simp))
            have B1 : Hid (Below w.heap.size w w1) := below_end (below2 D1.out)
            have y1 := box2_at _ _ _ D1.out 4 (.slice om nm8 km) rfl
            clear hb
            go_wp2_with fail
            go_ret
            exact ⟨by rw [show spotB foes (nm, cap, least, most, may) = false by simp only [spotB]; rw [c0, c1, c2, c3, c4]; rfl]; rfl, B1.out⟩
          · go_wp2_with fail
            refine (namesC_any S _ may 8 _ (HM.out _ B0.out) S0).mono ?_
            rintro e w1 ⟨rfl, hb⟩
            rw [c4]
            have D1 : Hid (Below (w.heap.size + 2) ((w.alloc (.cells #[v0, v1, v2, v3, v4] 33)).alloc (.cells #[.string nm, .int .i64 cap, .int .i64 least, .int .i64 most, .slice om nm8 km] 81)) w1) := D0.out.trans (hb.mono (by simp))
            have B1 : Hid (Below w.heap.size w w1) := below_end (below2 D1.out)
            have y1 := box2_at _ _ _ D1.out 4 (.slice om nm8 km) rfl
            clear hb
            go_wp2_with fail
            go_loopw [5] (fun i wr => ∃ k : Nat, k ≤ nm8 ∧ i = .int .i64 k ∧ Hid (∀ j (hj : j < may.length), j < k → (peaceB foes may) may[j] = true) ∧ Hid (Below (w.heap.size + 2) ((w.alloc (.cells #[v0, v1, v2, v3, v4] 33)).alloc (.cells #[.string nm, .int .i64 cap, .int .i64 least, .int .i64 most, .slice om nm8 km] 81)) wr)) (fun i _ => nm8 - (intOf i).toNat)
            case atStart => exact ⟨0, Nat.zero_le _, rfl, fun _ _ h => by omega, D1.out⟩
            case round =>
              obtain ⟨k, hk, rfl, hno, E⟩ := hrel
              have B := below_end (below2 E.out)
              have hs := B.size
              have hSr : ∀ b, S b → b < wr.heap.size := fun b hb => by have := hS b hb; omega
              have G0 := H0.out _ B
              have GM := HM.out _ B
              have q0 := fun d os => cell_regrown (box_at _ _ (below2 E.out) 0 v0 rfl) d os
              have q1 := fun d os => cell_regrown (box_at _ _ (below2 E.out) 1 v1 rfl) d os
              have q2 := fun d os => cell_regrown (box_at _ _ (below2 E.out) 2 v2 rfl) d os
              have q3 := fun d os => cell_regrown (box_at _ _ (below2 E.out) 3 v3 rfl) d os
              have q4 := fun d os => cell_regrown (box_at _ _ (below2 E.out) 4 v4 rfl) d os
              have y := box2_at _ _ _ E.out 4 (.slice om nm8 km) rfl
              have z := fun d os => cell_regrown y d os
              by_cases hlt : k < nm8
              · obtain ⟨q, off, rfl, hqS, cc, hcell, hat⟩ := HC.out k (by omega)
                have hq := hS q hqS
                rw [width_str] at hcell
                have e0 : wr.cell? ⟨q, off + k, none⟩ = some (cc 0) := (B.cell (p := ⟨q, off + k, none⟩) hq).trans (by simpa using hcell 0 (by omega))
                rw [at_str] at hat
                rw [hat.1] at e0
                clear hcell hat
                obtain ⟨f, ef⟩ : ∃ f, may[k]'(by omega) = f := ⟨_, rfl⟩
                rw [ef] at e0
                have qe := fun d os => cell_regrown e0 d os
                cases hy : clashC foes f may
                · have hp : peaceB foes may (may[k]'(by omega)) = true := by rw [ef]; show (!clashC foes f may) = _; rw [hy]; rfl
                  go_wp2
                  refine wp_region_quiet_below (by kernel_rfl) (by kernel_rfl) ?_
                  repeat (first | go_big_quiet_step (with_reducible exact clashC_q S _ _ _ _ _ _ foes _ may _ G0 GM hSr _ hy _ _) | quiet_step (with_reducible exact clashC_q S _ _ _ _ _ _ foes _ may _ G0 GM hSr _ hy _ _))
                  refine wpQuiet_nil ?_
                  intro _ hw'
                  obtain ⟨⟨dq, osq⟩, hw''⟩ := hw'
                  subst hw''
                  go_wp2
                  go_roundw
                  case rel => exact ⟨k + 1, by omega, by go_num, fun j hj hjk => by
                    by_cases e : j = k
                    · subst e; exact hp
                    · exact hno.out j hj (by omega), E.out.trans ((below_regrown _ dq osq).mono (by have := E.out.size; simp at this; exact this))⟩
                  case measure => simp [intOf]; omega
                · have hp : peaceB foes may (may[k]'(by omega)) = false := by rw [ef]; show (!clashC foes f may) = _; rw [hy]; rfl
                  go_wp2
                  refine wp_region_quiet_below (by kernel_rfl) (by kernel_rfl) ?_
                  repeat (first | go_big_quiet_step (with_reducible exact clashC_q S _ _ _ _ _ _ foes _ may _ G0 GM hSr _ hy _ _) | quiet_step (with_reducible exact clashC_q S _ _ _ _ _ _ foes _ may _ G0 GM hSr _ hy _ _))
                  refine wpQuiet_nil ?_
                  intro _ hw'
                  obtain ⟨⟨dq, osq⟩, hw''⟩ := hw'
                  subst hw''
                  go_wp2
                  go_ret
                  have hz : may.all (peaceB foes may) = false := all_no (k := k) (by omega) hp
                  exact ⟨by rw [show spotB foes (nm, cap, least, most, may) = false by simp only [spotB]; rw [c0, c1, c2, c3, c4, hz]; rfl]; rfl, below_end (below2 (E.out.trans ((below_regrown _ dq osq).mono (by have := E.out.size; simp at this; exact this))))⟩
              · have hz : may.all (peaceB foes may) = true := all_yes (fun j hj => hno.out j hj (by omega))
                go_wp2
                go_ret
                exact ⟨by rw [show spotB foes (nm, cap, least, most, may) = true by simp only [spotB]; rw [c0, c1, c2, c3, c4, hz]; rfl]; rfl, B⟩
        · have _u := trivial
          go_wp2_with fail
          go_ret
          exact ⟨by rw [show spotB foes (nm, cap, least, most, may) = false by simp only [spotB]; rw [c0, c1, c2, c3]; rfl]; rfl, B0.out⟩
end

/-
  The model's search for a part of a book by its number.
-/
section
open Go.RowKit

set_option maxRecDepth 100000 in
set_option maxHeartbeats 4000000 in
theorem partAtC_any (S : Nat → Prop) (v0 v1 v2 v3 v4 : Value) (l : List DClaimPart) (x : Int) (w : World) (h : AtL S w l v3) (hS : ∀ b, S b → b < w.heap.size) :
    Calls Tryz.prog 17 #[.agg #[v0, v1, v2, v3, v4], .int .i64 x] w fun e w' => e = .returned (.int .i64 (idxI l (fun p : DClaimPart => p.1 == x))) ∧ Below w.heap.size w w' := by
  obtain ⟨oa, cap, rfl, hn, hc⟩ := h
  obtain ⟨n, en⟩ : ∃ n, l.length = n := ⟨_, rfl⟩
  rw [en] at hn
  rw [en]
  unfold maxLen at hn
  have HC : Hid _ := hc
  clear hc
  go_enter Tryz.func17, Tryz.ntmps17
  go_wp2
  go_loop [5] (fun i => ∃ k : Nat, k ≤ n ∧ i = .int .i64 k ∧ Hid (∀ j (hj : j < l.length), j < k → (fun p : DClaimPart => p.1 == x) l[j] = false)) (fun i => n - (intOf i).toNat)
  case atStart => exact ⟨0, Nat.zero_le _, rfl, fun _ _ h => by omega⟩
  case round =>
    obtain ⟨k, hk, rfl, hno⟩ := hrel
    by_cases hlt : k < n
    · obtain ⟨b, off, rfl, hbS, cc, hcell, hat⟩ := HC.out k (by omega)
      have hb := hS b hbS
      rw [width_DClaimPart] at hcell
      have e0 : (w.alloc (.cells #[v0, v1, v2, .slice (some ⟨b, off, none⟩) n cap, v4] 33)).cell? ⟨b, off + k * 7, none⟩ = some (cc 0) := cell_past (by simpa using hcell 0 (by omega)) hb _
      have e1 : (w.alloc (.cells #[v0, v1, v2, .slice (some ⟨b, off, none⟩) n cap, v4] 33)).cell? ⟨b, off + k * 7 + 1, none⟩ = some (cc 1) := cell_past (by simpa using hcell 1 (by omega)) hb _
      have e2 : (w.alloc (.cells #[v0, v1, v2, .slice (some ⟨b, off, none⟩) n cap, v4] 33)).cell? ⟨b, off + k * 7 + 2, none⟩ = some (cc 2) := cell_past (by simpa using hcell 2 (by omega)) hb _
      have e3 : (w.alloc (.cells #[v0, v1, v2, .slice (some ⟨b, off, none⟩) n cap, v4] 33)).cell? ⟨b, off + k * 7 + 3, none⟩ = some (cc 3) := cell_past (by simpa using hcell 3 (by omega)) hb _
      have e4 : (w.alloc (.cells #[v0, v1, v2, .slice (some ⟨b, off, none⟩) n cap, v4] 33)).cell? ⟨b, off + k * 7 + 4, none⟩ = some (cc 4) := cell_past (by simpa using hcell 4 (by omega)) hb _
      have e5 : (w.alloc (.cells #[v0, v1, v2, .slice (some ⟨b, off, none⟩) n cap, v4] 33)).cell? ⟨b, off + k * 7 + 5, none⟩ = some (cc 5) := cell_past (by simpa using hcell 5 (by omega)) hb _
      have e6 : (w.alloc (.cells #[v0, v1, v2, .slice (some ⟨b, off, none⟩) n cap, v4] 33)).cell? ⟨b, off + k * 7 + 6, none⟩ = some (cc 6) := cell_past (by simpa using hcell 6 (by omega)) hb _
      clear hcell
      rw [at_DClaimPart] at hat
      rw [hat.1.1] at e0
      clear hat
      obtain ⟨f, ef⟩ : ∃ f, l[k]'(by omega) = f := ⟨_, rfl⟩
      rw [ef] at e0
      cases c0 : (f.1 == x)
      · have hp : (fun p : DClaimPart => p.1 == x) (l[k]'(by omega)) = false := by rw [ef]; simpa using c0
        go_wp2
        go_round
        case rel => exact ⟨k + 1, by omega, by go_num, fun j hj hjk => by
          by_cases e : j = k
          · subst e; exact hp
          · exact hno.out j hj (by omega)⟩
        case measure => simp [intOf]; omega
      · have hp : (fun p : DClaimPart => p.1 == x) (l[k]'(by omega)) = true := by rw [ef]; simpa using c0
        go_wp2
        have hr : idxI l (fun p : DClaimPart => p.1 == x) = k := idx_yes (p := fun p : DClaimPart => p.1 == x) (by omega) hp hno.out
        rw [hr]
        go_ret
        exact ⟨rfl, ((Below.refl _ _).alloc (Nat.le_refl _) _)⟩
    · have hkn : k = n := by omega
      subst hkn
      go_wp2
      go_ret
      have hr : idxI l (fun p : DClaimPart => p.1 == x) = -1 := idx_no (p := fun p : DClaimPart => p.1 == x) (fun j hj => hno.out j hj (by omega))
      rw [hr]
      exact ⟨rfl, ((Below.refl _ _).alloc (Nat.le_refl _) _)⟩
end

end Go.Proofs.YticojnepejboaacGreat
