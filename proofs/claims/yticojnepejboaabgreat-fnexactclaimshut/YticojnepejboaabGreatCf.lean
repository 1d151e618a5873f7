/-
  The model's test of one use of a part against its spot.
-/
import Derived.Test.YticojnepejboaabGreatCe
namespace Go.Proofs.YticojnepejboaabGreat
open Go.RowKit

/-- Does a use of a part fit its spot? -/
def fitB (least most : Int) (may : List ByteArray) (kind : Int) (stuffs : List ByteArray) (role amount : Int) : Bool :=
  !(decide (kind = 2) && decide (0 < most) || decide (kind = 1) && !decide (role = 2) && !allC' may stuffs || decide (kind = 1) && !decide (role = 1) && !allC' stuffs may) && decide (least + amount ≤ most)

theorem below3 {w wr : World} {o p q : Obj} (hb : Below (w.heap.size + 3) (((w.alloc o).alloc p).alloc q) wr) : Below (w.heap.size + 2) ((w.alloc o).alloc p) wr :=
  ((Below.refl _ _).alloc (by simp) q).trans (hb.mono (by omega))
theorem box3_at {w : World} (o : Array Value) (t : TypeId) (p q : Obj) {wr : World} (hb : Below (w.heap.size + 3) (((w.alloc p).alloc q).alloc (.cells o t)) wr) (j : Nat) (v : Value) (h : o[j]? = some v) : wr.cell? ⟨w.heap.size + 2, j, none⟩ = some v := by
  have e : (w.alloc p).heap.size = w.heap.size + 1 := by simp
  have := box2_at (w := w.alloc p) o t q (wr := wr) (by rw [e]; exact hb) j v h
  rw [e] at this
  exact this

set_option maxRecDepth 100000 in
set_option maxHeartbeats 8000000 in
theorem fitC_any (S : Nat → Prop) (nm : ByteArray) (cap least most kind role amount : Int) (vm x0 x2 x3 x4 x5 y0 : Value) (may stuffs : List ByteArray) (w : World) (ha : AtL S w may vm) (hb : AtL S w stuffs x2) (hS : ∀ b, S b → b < w.heap.size) (hr : -9223372036854775808 ≤ least + amount ∧ least + amount ≤ 9223372036854775807) :
    Calls Tryz.prog 92 #[.agg #[.string nm, .int .i64 cap, .int .i64 least, .int .i64 most, vm], .agg #[x0, .int .i64 kind, x2, x3, x4, x5], .agg #[y0, .int .i64 role, .int .i64 amount]] w fun e w' => e = .returned (.bool (fitB least most may kind stuffs role amount)) ∧ Below w.heap.size w w' := by
  have HA : Hid (∀ w', Below w.heap.size w w' → AtL S w' may vm) := fun w' h => ha.same (Same.of_below h hS)
  have HB : Hid (∀ w', Below w.heap.size w w' → AtL S w' stuffs x2) := fun w' h => hb.same (Same.of_below h hS)
  clear ha hb
  have D0 : Hid (Below (w.heap.size + 3) (((w.alloc (.cells #[.string nm, .int .i64 cap, .int .i64 least, .int .i64 most, vm] 79)).alloc (.cells #[x0, .int .i64 kind, x2, x3, x4, x5] 50)).alloc (.cells #[y0, .int .i64 role, .int .i64 amount] 118)) (((w.alloc (.cells #[.string nm, .int .i64 cap, .int .i64 least, .int .i64 most, vm] 79)).alloc (.cells #[x0, .int .i64 kind, x2, x3, x4, x5] 50)).alloc (.cells #[y0, .int .i64 role, .int .i64 amount] 118))) := Below.refl _ _
  have B0 : Hid (Below w.heap.size w (((w.alloc (.cells #[.string nm, .int .i64 cap, .int .i64 least, .int .i64 most, vm] 79)).alloc (.cells #[x0, .int .i64 kind, x2, x3, x4, x5] 50)).alloc (.cells #[y0, .int .i64 role, .int .i64 amount] 118))) := below_end (below2 (below3 D0.out))
  have S0 : ∀ b, S b → b < (((w.alloc (.cells #[.string nm, .int .i64 cap, .int .i64 least, .int .i64 most, vm] 79)).alloc (.cells #[x0, .int .i64 kind, x2, x3, x4, x5] 50)).alloc (.cells #[y0, .int .i64 role, .int .i64 amount] 118)).heap.size := fun b hb => by have := hS b hb; simp; omega
  go_enter Tryz.func92, Tryz.ntmps92
  by_cases k2 : kind = 2
  · subst k2
    cases hm : decide (0 < most)
    · have _u := trivial
      cases hf : decide (least + amount ≤ most)
      · go_wp2_with fail
        go_ret
        exact ⟨by rw [show fitB least most may _ stuffs _ amount = false by simp only [fitB, hm, hf]; rfl]; rfl, B0.out⟩
      · go_wp2_with fail
        go_ret
        exact ⟨by rw [show fitB least most may _ stuffs _ amount = true by simp only [fitB, hm, hf]; rfl]; rfl, B0.out⟩
    · have _u := trivial
      go_wp2_with fail
      go_ret
      exact ⟨by rw [show fitB least most may _ stuffs _ amount = false by simp [fitB, hm]]; rfl, B0.out⟩
  · have k2' : decide (kind = 2) = false := by simp [k2]
    by_cases k1 : kind = 1
    · subst k1
      by_cases r2 : role = 2
      · subst r2
        cases h0 : allC' stuffs may
        · go_wp2_with fail
          refine (allC_any S _ _ stuffs may _ (HB.out _ B0.out) (HA.out _ B0.out) S0).mono ?_
          rintro e w1 ⟨rfl, hb⟩
          rw [h0]
          have D1 : Hid (Below (w.heap.size + 3) (((w.alloc (.cells #[.string nm, .int .i64 cap, .int .i64 least, .int .i64 most, vm] 79)).alloc (.cells #[x0, .int .i64 1, x2, x3, x4, x5] 50)).alloc (.cells #[y0, .int .i64 2, .int .i64 amount] 118)) w1) := D0.out.trans (hb.mono (by have := D0.out.size; simp at this ⊢; try omega))
          have B1 : Hid (Below w.heap.size w w1) := below_end (below2 (below3 D1.out))
          have S1 : ∀ b, S b → b < w1.heap.size := fun b hb => by have := hS b hb; have := B1.out.size; omega
          have p12 := box_at _ _ (below2 (below3 D1.out)) 2 (.int .i64 least) rfl
          have p13 := box_at _ _ (below2 (below3 D1.out)) 3 (.int .i64 most) rfl
          have p14 := box_at _ _ (below2 (below3 D1.out)) 4 (vm) rfl
          have q11 := box2_at _ _ _ (below3 D1.out) 1 (.int .i64 1) rfl
          have q12 := box2_at _ _ _ (below3 D1.out) 2 (x2) rfl
          have r11 := box3_at _ _ _ _ D1.out 1 (.int .i64 _) rfl
          have r12 := box3_at _ _ _ _ D1.out 2 (.int .i64 _) rfl
          clear hb
          go_wp2_with fail
          go_ret
          exact ⟨by rw [show fitB least most may _ stuffs _ amount = false by simp [fitB, h0]]; rfl, B1.out⟩
        · go_wp2_with fail
          refine (allC_any S _ _ stuffs may _ (HB.out _ B0.out) (HA.out _ B0.out) S0).mono ?_
          rintro e w1 ⟨rfl, hb⟩
          rw [h0]
          have D1 : Hid (Below (w.heap.size + 3) (((w.alloc (.cells #[.string nm, .int .i64 cap, .int .i64 least, .int .i64 most, vm] 79)).alloc (.cells #[x0, .int .i64 1, x2, x3, x4, x5] 50)).alloc (.cells #[y0, .int .i64 2, .int .i64 amount] 118)) w1) := D0.out.trans (hb.mono (by have := D0.out.size; simp at this ⊢; try omega))
          have B1 : Hid (Below w.heap.size w w1) := below_end (below2 (below3 D1.out))
          have S1 : ∀ b, S b → b < w1.heap.size := fun b hb => by have := hS b hb; have := B1.out.size; omega
          have p12 := box_at _ _ (below2 (below3 D1.out)) 2 (.int .i64 least) rfl
          have p13 := box_at _ _ (below2 (below3 D1.out)) 3 (.int .i64 most) rfl
          have p14 := box_at _ _ (below2 (below3 D1.out)) 4 (vm) rfl
          have q11 := box2_at _ _ _ (below3 D1.out) 1 (.int .i64 1) rfl
          have q12 := box2_at _ _ _ (below3 D1.out) 2 (x2) rfl
          have r11 := box3_at _ _ _ _ D1.out 1 (.int .i64 _) rfl
          have r12 := box3_at _ _ _ _ D1.out 2 (.int .i64 _) rfl
          clear hb
          cases hf : decide (least + amount ≤ most)
          · go_wp2_with fail
            go_ret
            exact ⟨by rw [show fitB least most may _ stuffs _ amount = false by simp only [fitB, h0, hf]; rfl]; rfl, B1.out⟩
          · go_wp2_with fail
            go_ret
            exact ⟨by rw [show fitB least most may _ stuffs _ amount = true by simp only [fitB, h0, hf]; rfl]; rfl, B1.out⟩
      · have r2' : decide (role = 2) = false := by simp [r2]
        by_cases r1 : role = 1
        · subst r1
          cases h0 : allC' may stuffs
          · go_wp2_with fail
            refine (allC_any S _ _ may stuffs _ (HA.out _ B0.out) (HB.out _ B0.out) S0).mono ?_
            rintro e w1 ⟨rfl, hb⟩
            rw [h0]
            have D1 : Hid (Below (w.heap.size + 3) (((w.alloc (.cells #[.string nm, .int .i64 cap, .int .i64 least, .int .i64 most, vm] 79)).alloc (.cells #[x0, .int .i64 1, x2, x3, x4, x5] 50)).alloc (.cells #[y0, .int .i64 1, .int .i64 amount] 118)) w1) := D0.out.trans (hb.mono (by have := D0.out.size; simp at this ⊢; try omega))
            have B1 : Hid (Below w.heap.size w w1) := below_end (below2 (below3 D1.out))
            have S1 : ∀ b, S b → b < w1.heap.size := fun b hb => by have := hS b hb; have := B1.out.size; omega
            have p12 := box_at _ _ (below2 (below3 D1.out)) 2 (.int .i64 least) rfl
            have p13 := box_at _ _ (below2 (below3 D1.out)) 3 (.int .i64 most) rfl
            have p14 := box_at _ _ (below2 (below3 D1.out)) 4 (vm) rfl
            have q11 := box2_at _ _ _ (below3 D1.out) 1 (.int .i64 1) rfl
            have q12 := box2_at _ _ _ (below3 D1.out) 2 (x2) rfl
            have r11 := box3_at _ _ _ _ D1.out 1 (.int .i64 _) rfl
            have r12 := box3_at _ _ _ _ D1.out 2 (.int .i64 _) rfl
            clear hb
            go_wp2_with fail
            go_ret
            exact ⟨by rw [show fitB least most may _ stuffs _ amount = false by simp [fitB, h0]]; rfl, B1.out⟩
          · go_wp2_with fail
            refine (allC_any S _ _ may stuffs _ (HA.out _ B0.out) (HB.out _ B0.out) S0).mono ?_
            rintro e w1 ⟨rfl, hb⟩
            rw [h0]
            have D1 : Hid (Below (w.heap.size + 3) (((w.alloc (.cells #[.string nm, .int .i64 cap, .int .i64 least, .int .i64 most, vm] 79)).alloc (.cells #[x0, .int .i64 1, x2, x3, x4, x5] 50)).alloc (.cells #[y0, .int .i64 1, .int .i64 amount] 118)) w1) := D0.out.trans (hb.mono (by have := D0.out.size; simp at this ⊢; try omega))
            have B1 : Hid (Below w.heap.size w w1) := below_end (below2 (below3 D1.out))
            have S1 : ∀ b, S b → b < w1.heap.size := fun b hb => by have := hS b hb; have := B1.out.size; omega
            have p12 := box_at _ _ (below2 (below3 D1.out)) 2 (.int .i64 least) rfl
            have p13 := box_at _ _ (below2 (below3 D1.out)) 3 (.int .i64 most) rfl
            have p14 := box_at _ _ (below2 (below3 D1.out)) 4 (vm) rfl
            have q11 := box2_at _ _ _ (below3 D1.out) 1 (.int .i64 1) rfl
            have q12 := box2_at _ _ _ (below3 D1.out) 2 (x2) rfl
            have r11 := box3_at _ _ _ _ D1.out 1 (.int .i64 _) rfl
            have r12 := box3_at _ _ _ _ D1.out 2 (.int .i64 _) rfl
            clear hb
            cases hf : decide (least + amount ≤ most)
            · go_wp2_with fail
              go_ret
              exact ⟨by rw [show fitB least most may _ stuffs _ amount = false by simp only [fitB, h0, hf]; rfl]; rfl, B1.out⟩
            · go_wp2_with fail
              go_ret
              exact ⟨by rw [show fitB least most may _ stuffs _ amount = true by simp only [fitB, h0, hf]; rfl]; rfl, B1.out⟩
        · have r1' : decide (role = 1) = false := by simp [r1]
          cases h0 : allC' may stuffs
          · go_wp2_with fail
            refine (allC_any S _ _ may stuffs _ (HA.out _ B0.out) (HB.out _ B0.out) S0).mono ?_
            rintro e w1 ⟨rfl, hb⟩
            rw [h0]
            have D1 : Hid (Below (w.heap.size + 3) (((w.alloc (.cells #[.string nm, .int .i64 cap, .int .i64 least, .int .i64 most, vm] 79)).alloc (.cells #[x0, .int .i64 1, x2, x3, x4, x5] 50)).alloc (.cells #[y0, .int .i64 role, .int .i64 amount] 118)) w1) := D0.out.trans (hb.mono (by have := D0.out.size; simp at this ⊢; try omega))
            have B1 : Hid (Below w.heap.size w w1) := below_end (below2 (below3 D1.out))
            have S1 : ∀ b, S b → b < w1.heap.size := fun b hb => by have := hS b hb; have := B1.out.size; omega
            have p12 := box_at _ _ (below2 (below3 D1.out)) 2 (.int .i64 least) rfl
            have p13 := box_at _ _ (below2 (below3 D1.out)) 3 (.int .i64 most) rfl
            have p14 := box_at _ _ (below2 (below3 D1.out)) 4 (vm) rfl
            have q11 := box2_at _ _ _ (below3 D1.out) 1 (.int .i64 1) rfl
            have q12 := box2_at _ _ _ (below3 D1.out) 2 (x2) rfl
            have r11 := box3_at _ _ _ _ D1.out 1 (.int .i64 _) rfl
            have r12 := box3_at _ _ _ _ D1.out 2 (.int .i64 _) rfl
            clear hb
            go_wp2_with fail
            go_ret
            exact ⟨by rw [show fitB least most may _ stuffs _ amount = false by simp [fitB, r1', r2', h0]]; rfl, B1.out⟩
          · go_wp2_with fail
            refine (allC_any S _ _ may stuffs _ (HA.out _ B0.out) (HB.out _ B0.out) S0).mono ?_
            rintro e w1 ⟨rfl, hb⟩
            rw [h0]
            have D1 : Hid (Below (w.heap.size + 3) (((w.alloc (.cells #[.string nm, .int .i64 cap, .int .i64 least, .int .i64 most, vm] 79)).alloc (.cells #[x0, .int .i64 1, x2, x3, x4, x5] 50)).alloc (.cells #[y0, .int .i64 role, .int .i64 amount] 118)) w1) := D0.out.trans (hb.mono (by have := D0.out.size; simp at this ⊢; try omega))
            have B1 : Hid (Below w.heap.size w w1) := below_end (below2 (below3 D1.out))
            have S1 : ∀ b, S b → b < w1.heap.size := fun b hb => by have := hS b hb; have := B1.out.size; omega
            have p12 := box_at _ _ (below2 (below3 D1.out)) 2 (.int .i64 least) rfl
            have p13 := box_at _ _ (below2 (below3 D1.out)) 3 (.int .i64 most) rfl
            have p14 := box_at _ _ (below2 (below3 D1.out)) 4 (vm) rfl
            have q11 := box2_at _ _ _ (below3 D1.out) 1 (.int .i64 1) rfl
            have q12 := box2_at _ _ _ (below3 D1.out) 2 (x2) rfl
            have r11 := box3_at _ _ _ _ D1.out 1 (.int .i64 _) rfl
            have r12 := box3_at _ _ _ _ D1.out 2 (.int .i64 _) rfl
            clear hb
            cases h1 : allC' stuffs may
            · go_wp2_with fail
              refine (allC_any S _ _ stuffs may _ (HB.out _ B1.out) (HA.out _ B1.out) S1).mono ?_
              rintro e w2 ⟨rfl, hb⟩
              rw [h1]
              have D2 : Hid (Below (w.heap.size + 3) (((w.alloc (.cells #[.string nm, .int .i64 cap, .int .i64 least, .int .i64 most, vm] 79)).alloc (.cells #[x0, .int .i64 1, x2, x3, x4, x5] 50)).alloc (.cells #[y0, .int .i64 role, .int .i64 amount] 118)) w2) := D1.out.trans (hb.mono (by have := D1.out.size; simp at this ⊢; try omega))
              have B2 : Hid (Below w.heap.size w w2) := below_end (below2 (below3 D2.out))
              have S2 : ∀ b, S b → b < w2.heap.size := fun b hb => by have := hS b hb; have := B2.out.size; omega
              have p22 := box_at _ _ (below2 (below3 D2.out)) 2 (.int .i64 least) rfl
              have p23 := box_at _ _ (below2 (below3 D2.out)) 3 (.int .i64 most) rfl
              have p24 := box_at _ _ (below2 (below3 D2.out)) 4 (vm) rfl
              have q21 := box2_at _ _ _ (below3 D2.out) 1 (.int .i64 1) rfl
              have q22 := box2_at _ _ _ (below3 D2.out) 2 (x2) rfl
              have r21 := box3_at _ _ _ _ D2.out 1 (.int .i64 _) rfl
              have r22 := box3_at _ _ _ _ D2.out 2 (.int .i64 _) rfl
              clear hb
              go_wp2_with fail
              go_ret
              exact ⟨by rw [show fitB least most may _ stuffs _ amount = false by simp [fitB, r1', r2', h0, h1]]; rfl, B2.out⟩
            · go_wp2_with fail
              refine (allC_any S _ _ stuffs may _ (HB.out _ B1.out) (HA.out _ B1.out) S1).mono ?_
              rintro e w2 ⟨rfl, hb⟩
              rw [h1]
              have D2 : Hid (Below (w.heap.size + 3) (((w.alloc (.cells #[.string nm, .int .i64 cap, .int .i64 least, .int .i64 most, vm] 79)).alloc (.cells #[x0, .int .i64 1, x2, x3, x4, x5] 50)).alloc (.cells #[y0, .int .i64 role, .int .i64 amount] 118)) w2) := D1.out.trans (hb.mono (by have := D1.out.size; simp at this ⊢; try omega))
              have B2 : Hid (Below w.heap.size w w2) := below_end (below2 (below3 D2.out))
              have S2 : ∀ b, S b → b < w2.heap.size := fun b hb => by have := hS b hb; have := B2.out.size; omega
              have p22 := box_at _ _ (below2 (below3 D2.out)) 2 (.int .i64 least) rfl
              have p23 := box_at _ _ (below2 (below3 D2.out)) 3 (.int .i64 most) rfl
              have p24 := box_at _ _ (below2 (below3 D2.out)) 4 (vm) rfl
              have q21 := box2_at _ _ _ (below3 D2.out) 1 (.int .i64 1) rfl
              have q22 := box2_at _ _ _ (below3 D2.out) 2 (x2) rfl
              have r21 := box3_at _ _ _ _ D2.out 1 (.int .i64 _) rfl
              have r22 := box3_at _ _ _ _ D2.out 2 (.int .i64 _) rfl
              clear hb
              cases hf : decide (least + amount ≤ most)
              · go_wp2_with fail
                go_ret
                exact ⟨by rw [show fitB least most may _ stuffs _ amount = false by simp only [fitB, r1', r2', h0, h1, hf]; rfl]; rfl, B2.out⟩
              · go_wp2_with fail
                go_ret
                exact ⟨by rw [show fitB least most may _ stuffs _ amount = true by simp only [fitB, r1', r2', h0, h1, hf]; rfl]; rfl, B2.out⟩
    · have k1' : decide (kind = 1) = false := by simp [k1]
      cases hf : decide (least + amount ≤ most)
      · go_wp2_with fail
        go_ret
        exact ⟨by rw [show fitB least most may _ stuffs _ amount = false by simp only [fitB, k1', k2', hf]; rfl]; rfl, B0.out⟩
      · go_wp2_with fail
        go_ret
        exact ⟨by rw [show fitB least most may _ stuffs _ amount = true by simp only [fitB, k1', k2', hf]; rfl]; rfl, B0.out⟩

end Go.Proofs.YticojnepejboaabGreat
